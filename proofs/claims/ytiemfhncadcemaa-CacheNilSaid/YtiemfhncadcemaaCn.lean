/- cache: slices.Clone of bytes. -/
import Derived.Test.YtiemfhncadcemaaCm
import Derived.Lib.SmallJoins
namespace Go.Proofs.Ytiemfhncadcemaa
open Go.RowKit Dsk
attribute [local go_sem] Oper.semAt_some

theorem own_new (w : World) (base : Nat) (h : base ≤ w.heap.size) : (w.alloc (.cells #[] 5)).ownsRow base 5 1 (.slice (some ⟨w.heap.size, 0, none⟩) 0 0) 0 (([] : List UInt8).map bv) :=
  World.ownsRow_made w #[] 0 h (Nat.zero_le _) rfl
theorem run_eqnil (a : Addr) (l c : Nat) (w : World) : (binOp .eql 33 (.slice (some a) l c) (.slice none 0 0)).run Try.prog w = .ok (.bool false) w := by
  exact Lib.run_eql_slice_nil w 33 5 (some a) l c 0 0 Try.underlying33

set_option maxHeartbeats 400000 in
set_option maxRecDepth 20000 in
theorem clone_any (g o : Nat) (len cap : Nat) (bs : List UInt8) (w : World) (hbl : bs.length = len) (h0 : 0 < len) (hl : len ≤ 1048576) (hA : Bytes w (some ⟨g, o, none⟩) bs) :
    Calls Try.prog 39 #[.slice (some ⟨g, o, none⟩) len cap] w fun e w' => ∃ q c, e = .returned (.slice (some ⟨q, 0, none⟩) len c) ∧ Rw w' q len c bs ∧ w.heap.size ≤ q ∧ Below w.heap.size w w' := by
  have hb0 : Below w.heap.size w (w.alloc (.cells #[] 5)) := (Below.refl _ w).alloc (Nat.le_refl _) _
  obtain ⟨v1, w1, hrun1, hown1, hgr1⟩ := run_app8 (w.alloc (.cells #[] 5)) w.heap.size _ 0 [] (own_new w w.heap.size (Nat.le_refl _)) (some ⟨g, o, none⟩) len cap bs hbl (hA.below hb0) (by omega) (by simp)
  rw [List.nil_append, Nat.zero_add] at hown1
  have hb1 : Below w.heap.size w w1 := hb0.grown hgr1 (by simp) (fun k e => by simp [Value.ownBlock] at e; omega)
  obtain ⟨q, c, hv, hq⟩ : ∃ q c, v1 = .slice (some ⟨q, 0, none⟩) len c ∧ w.heap.size ≤ q := by
    rcases hown1.2 with ⟨rfl, e⟩ | ⟨q, c, cur, e, h1, _⟩
    · omega
    · exact ⟨q, c, e, h1⟩
  subst hv
  have HRUN := Lib.hid hrun1
  have HO := Lib.hid (Rw.of_own hown1)
  have HB1 := Lib.hid hb1
  have heq := run_eqnil ⟨g, o, none⟩ len cap
  clear hrun1 hown1 hgr1 hb1 hb0 hA
  go_enter Try.func39, Try.ntmps39
  go_wp2_with (at_builtin; refine wpList_app rfl _ _ 33 rfl _ _ _ _ rfl rfl HRUN.out ?_; clear HRUN)
  go_ret
  exact ⟨_, _, rfl, HO.out, hq, HB1.out⟩

end Go.Proofs.Ytiemfhncadcemaa
