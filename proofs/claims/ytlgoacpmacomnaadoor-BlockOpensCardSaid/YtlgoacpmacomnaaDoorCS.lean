/- A text with its sum, and one with a bit turned. -/
import Derived.Test.YtlgoacpmacomnaaDoorCX
import Derived.Test.YtlgoacpmacomnaaDoorOK
namespace Go.Proofs.YtlgoacpmacomnaaDoor
open Go.RowKit Crc

theorem le4_cells {s : Nat} (hs : s < 4294967296) (k : Nat) (c : UInt8) (h : (le4 s)[k]? = some c) :
    (#[Value.int .u8 ((s : Int) % 256), .int .u8 ((s : Int) / 256 % 256), .int .u8 ((s : Int) / 65536 % 256), .int .u8 ((s : Int) / 16777216)] : Array Value)[k]? = some (bv c) := by
  unfold le4 at h
  have hk : k < 4 := by
    rcases Nat.lt_or_ge k 4 with hk | hk
    · exact hk
    · rw [List.getElem?_eq_none (by simpa using hk)] at h; cases h
  rcases (by omega : k = 0 ∨ k = 1 ∨ k = 2 ∨ k = 3) with rfl | rfl | rfl | rfl <;> simp at h <;> subst h <;> simp [bv] <;> omega

theorem own_form {w : World} {base : Nat} {e : TypeId} {v : Value} {n : Nat} {xs : List Value} (h : w.ownsRow base e 1 v n xs) (hn : 0 < n) : ∃ g cap, v = .slice (some ⟨g, 0, none⟩) n cap ∧ base ≤ g ∧ g < w.heap.size ∧ (∀ k u, xs[k]? = some u → w.cell? ⟨g, k, none⟩ = some u) ∧ ∀ k, w.frozen? ⟨g, k, none⟩ = false := by
  rcases h.2 with ⟨_, rfl⟩ | ⟨g, cap, cur, rfl, hb, hg, hn', hm, hs, ht⟩
  · omega
  · refine ⟨g, cap, rfl, hb, (Array.getElem?_eq_some_iff.1 hg).1, fun k u hu => ?_, fun k => Blk.frozen (t := e) (cs := cur) hg k⟩
    rw [cell_of_row w g k cur e (0, 0) hg]
    rw [← ht, List.getElem?_take] at hu
    split at hu
    · simpa using hu
    · cases hu
theorem own_set {w : World} {base g cap : Nat} {e : TypeId} {n : Nat} {xs : List Value} (h : w.ownsRow base e 1 (.slice (some ⟨g, 0, none⟩) n cap) n xs) (k : Nat) (u : Value) : (w.setCell ⟨g, k, none⟩ u).ownsRow base e 1 (.slice (some ⟨g, 0, none⟩) n cap) n (xs.set k u) := by
  refine ⟨by simpa using h.1, ?_⟩
  rcases h.2 with ⟨e', _⟩ | ⟨g', cap', cur, e', hb, hg, hn', hm, hs, ht⟩
  · cases e'
  · injection e' with e1 e2 e3
    injection e1 with e1
    injection e1 with e1
    subst e1 e3
    refine .inr ⟨g, cap, cur.setIfInBounds k u, rfl, hb, Blk.set_ (t := e) (cs := cur) hg k u, hn', hm, by simpa using hs, ?_⟩
    rw [Array.toList_setIfInBounds, List.take_set, ht]

theorem turned_set (bs : List UInt8) (k : Nat) (t : UInt8) (hk : k < bs.length) : (bs.map bv).set k (bv (bs[k] ^^^ t)) = (turned bs k t).map bv := by
  unfold turned
  apply List.ext_getElem
  · simp
  · intro i h1 h2
    simp only [List.getElem_set, List.getElem_map, List.getElem_modify]
    split
    · rename_i h
      subst h
      simp
    · rename_i h
      simp

set_option maxHeartbeats 400000 in
theorem turn_any (A : Option Addr) (cap p : Nat) (bs : List UInt8) (w : World) (hA : Bytes w A bs) (hl : bs.length ≤ 70368744177664) (hp : p < 8 * bs.length) :
    Calls Tryd.prog 33 #[.slice A bs.length cap, .int .i64 p] w fun e w' => ∃ v, e = .returned v ∧ w'.ownsRow w.heap.size 5 1 v bs.length ((bitTurned bs p).map bv) ∧ Below w.heap.size w w' := by
  have hb0 : Below w.heap.size w (w.alloc (.cells #[] 5)) := (Below.refl _ w).alloc (Nat.le_refl _) _
  obtain ⟨v1, w1, hrun1, hown1, hgr1⟩ := run_app8 (w.alloc (.cells #[] 5)) w.heap.size _ 0 [] (own_new w w.heap.size (Nat.le_refl _)) A bs.length cap bs rfl (hA.below hb0) (by omega) (by simp)
  rw [List.nil_append, Nat.zero_add] at hown1
  have hb1 : Below w.heap.size w w1 := hb0.grown hgr1 (by simp) (fun k e => by simp [Value.ownBlock] at e; omega)
  obtain ⟨g, c1, rfl, hg, hglt, hcell, hfz⟩ := own_form hown1 (by omega)
  have hk : p / 8 < bs.length := by omega
  have hc := hcell (p / 8) (bv bs[p / 8]) (by simp [hk])
  have hf := hfz (p / 8)
  have hset := own_set hown1 (p / 8) (bv (bs[p / 8] ^^^ UInt8.ofNat (2 ^ (p % 8))))
  rw [turned_set _ _ _ hk] at hset
  have hb2 : Below w.heap.size w (w1.setCell ⟨g, p / 8, none⟩ (bv (bs[p / 8] ^^^ UInt8.ofNat (2 ^ (p % 8))))) := hb1.setCell (p := ⟨g, p / 8, none⟩) hg _
  obtain ⟨c, hcv⟩ : ∃ c, bs[p / 8] = c := ⟨_, rfl⟩
  have hx : bits .xor .u8 (c.toNat : Int) (2 ^ (p % 8) % 256) = (((c ^^^ UInt8.ofNat (2 ^ (p % 8))).toNat : Nat) : Int) := by
    have hcl := c.toNat_lt
    have h2 : 2 ^ (p % 8) < 2 ^ 8 := Nat.pow_lt_pow_right (by decide) (Nat.mod_lt _ (by decide))
    have e : ((2 : Int) ^ (p % 8) % 256) = ((2 ^ (p % 8) : Nat) : Int) := by
      have h3 : ((2 ^ (p % 8) : Nat) : Int) = 2 ^ (p % 8) := by push_cast; rfl
      rw [← h3]
      generalize (2 ^ (p % 8) : Nat) = m at h2 ⊢
      omega
    rw [e, u8_xor_nat _ _ hcl (by omega), UInt8.toNat_xor, ofNat_pow _ (Nat.mod_lt _ (by decide))]
  rw [hcv] at hc hset hb2
  obtain ⟨d, hd⟩ : ∃ d, c ^^^ UInt8.ofNat (2 ^ (p % 8)) = d := ⟨_, rfl⟩
  rw [hd] at hset hb2 hx
  obtain ⟨cn, hcn⟩ : ∃ n, c.toNat = n := ⟨_, rfl⟩
  obtain ⟨dn, hdn⟩ : ∃ n, d.toNat = n := ⟨_, rfl⟩
  have hcln : cn < 256 := by rw [← hcn]; exact c.toNat_lt
  simp only [bv] at hc hset hb2
  rw [hdn] at hset hb2 hx
  rw [hcn] at hc hx
  have HRUN1 := Lib.hid hrun1
  have HB := Lib.hid hb2
  have HO := Lib.hid hset
  clear hrun1 hA hgr1 hb0 hb1 hb2 hown1 hcell hfz hset hcv hd hdn hcn
  go_enter Tryd.func33, Tryd.ntmps33
  go_wp2_with (first
    | (at_builtin; refine wpList_app rfl _ _ 22 rfl _ _ _ _ rfl rfl HRUN1.out ?_; clear HRUN1))
  go_ret
  exact ⟨_, rfl, HO.out, HB.out⟩

end Go.Proofs.YtlgoacpmacomnaaDoor
