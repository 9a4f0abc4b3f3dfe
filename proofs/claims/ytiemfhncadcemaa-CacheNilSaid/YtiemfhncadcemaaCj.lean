/- cache: putOut in one form; makeRoom. -/
import Derived.Test.YtiemfhncadcemaaCi
namespace Go.Proofs.Ytiemfhncadcemaa
open Go.RowKit Dsk
def outE (D : DS) (x : Fr) : Int := if x.dirty then writeE D (x.s : Int) x.b else 0
def outD (D : DS) (x : Fr) : DS := if x.dirty then writeD D (x.s : Int) x.b else D
def outL (D : DS) (x : Fr) (L : List Fr) : List Fr := if outE D x = 0 then delL x.s L else L
section
variable {w0 w : World} {X E : Nat → Prop} {g dg mb n most time : Nat} {B : Nat → Nat} {L : List Fr} {D : DS}
theorem RunC.below {w' : World} (h : RunC w0 w X g dg mb n most time B L D E) (hb : Below w.heap.size w w') : RunC w0 w' X g dg mb n most time B L D E ∧ Keep X w w' :=
  ⟨⟨h.cm.below hb, h.run.below hb, h.far⟩, ⟨hb.size, fun k hk => hb.block k (h.run.lt k (.inl hk))⟩⟩
theorem putOut_any (h : RunC w0 w X g dg mb n most time B L D E) {x : Fr} (hx : x ∈ L) (hP : D.P.length < 1000000) (hS : D.steps < 1000000000) :
    Calls Try.prog 40 #[.pointer (some ⟨g, 0, none⟩), .int .i64 (x.s : Int)] w fun e w' => e = .returned (.int .i64 (outE D x)) ∧ RunC w0 w' X g dg mb n most time B (outL D x L) (outD D x) E ∧ Keep X w w' := by
  cases hd : x.dirty with
  | false =>
    have e1 : outE D x = 0 := by unfold outE; rw [hd]; rfl
    have e2 : outD D x = D := by unfold outD; rw [hd]; rfl
    have e3 : outL D x L = delL x.s L := by unfold outL; rw [if_pos e1]
    rw [e1, e2, e3]
    exact putOut_clean h hx hd
  | true =>
    have e1 : outE D x = writeE D (x.s : Int) x.b := by unfold outE; rw [hd]; rfl
    have e2 : outD D x = writeD D (x.s : Int) x.b := by unfold outD; rw [hd]; rfl
    by_cases he : writeE D (x.s : Int) x.b = 0
    · have e3 : outL D x L = delL x.s L := by unfold outL; rw [e1, if_pos he]
      rw [e1, e2, e3, he]
      exact putOut_yes h hx hd hP hS he
    · have e3 : outL D x L = L := by unfold outL; rw [e1, if_neg he]
      rw [e1, e2, e3]
      exact putOut_no h hx hd hP hS he
set_option maxRecDepth 20000 in
set_option maxHeartbeats 1000000 in
theorem room_yes (h : RunC w0 w X g dg mb n most time B L D E) (hl : L.length < most) :
    Calls Try.prog 41 #[.pointer (some ⟨g, 0, none⟩)] w fun e w' => e = .returned (.int .i64 0) ∧ RunC w0 w' X g dg mb n most time B L D E ∧ Keep X w w' := by
  obtain ⟨c0, c1, c2, c3, _⟩ := h.cm.head.told
  have hlen : ∀ q ty, (Builtin.len_ #[63] ty #[.map (some mb)]).run Try.prog (w.drewN q) = .ok (.int .i64 (L.length : Int)) (w.drewN q) := fun q ty => (h.cm.below (drewN_below w q)).map.len ty
  obtain ⟨l, hll⟩ : ∃ l, L.length = l := ⟨_, rfl⟩
  rw [hll] at hlen hl
  have hlt : decide ((l : Int) < (most : Int)) = true := by simp; omega
  have HO : Hid (∀ q, RunC w0 (w.drewN q) X g dg mb n most time B L D E ∧ Keep X w (w.drewN q)) := Lib.hid (fun q => h.below (drewN_below w q))
  clear h hll
  go_enter Try.func41, Try.ntmps41
  go_wp2_with fail
  go_quiet (fail)
  go_wp2_with fail
  go_ret
  exact ⟨rfl, HO.out _⟩
end
end Go.Proofs.Ytiemfhncadcemaa
