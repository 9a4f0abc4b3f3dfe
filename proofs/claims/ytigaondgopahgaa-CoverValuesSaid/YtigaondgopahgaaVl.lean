/- cover: values. -/
import Derived.Test.YtigaondgopahgaaVk
namespace Go.Proofs.Ytigaondgopahgaa
open Go.RowKit Ty
set_option linter.unusedVariables false
set_option linter.unusedSimpArgs false
attribute [local go_sem] Oper.semAt_some
def soOf (k : Nat) : So := if k % 4 = 0 then .bool else if k % 4 = 1 then .num else if k % 4 = 2 then .opt else .exn
def vE0 (v : Vl) : Ve := ⟨v, none, 0⟩
theorem vE0_in {F : Nat → Prop} {w : World} {v : Vl} (h : v.ks = []) (ho : v.ok) : (vE0 v).in_ F w := ⟨by show Vl.At F w none v.ks; rw [h]; exact .nil _, ho, by show v.ks.length ≤ 0; rw [h]; exact Nat.le_refl _, Nat.zero_le _⟩
theorem ok_vs (v : Vl) : (vSome v).ok := ⟨⟨by show (-9223372036854775808 : Int) ≤ 0; decide, by show (0 : Int) < 9223372036854775808; decide⟩, by show 4 ≤ maxLen; decide⟩
theorem VAt_blk {F : Nat → Prop} {w : World} {g : Nat} {cs : Array Value} {es : List Ve} {vs : List Vl} {n : Nat} (h : Blk w g 36 cs) (hcs : flatV es = cs.toList) (hk : ∀ e ∈ es, e.in_ F w) (hF : F g) (hv : es.map Ve.t = vs) (hn : vs.length = n) (hm : n ≤ 100) : VAt F w (some ⟨g, 0, none⟩) n n vs := by
  refine ⟨hn, Nat.le_refl _, by unfold maxLen; omega, ?_⟩
  rw [← hv]
  exact Vl.At_blk h (fun i v hi => by rw [hcs] at hi; simpa using hi) hk hF
set_option maxRecDepth 100000 in
set_option maxHeartbeats 8000000 in
theorem values_any (k : Nat) (hk : k < 256) (w : World) :
    Calls Try.prog 13 #[.int .u8 (k : Int)] w fun e w' => ∃ A n c, e = .returned (.slice A n c) ∧ VAt (fun b => w.heap.size ≤ b) w' A n c (vals (soOf k)) ∧ Below w.heap.size w w' := by
  have hm : ∀ r, k % 4 = r → ((k : Int) % 4) = (r : Int) := fun r h => by omega
  have h4 : k % 4 = 0 ∨ k % 4 = 1 ∨ k % 4 = 2 ∨ k % 4 = 3 := by omega
  have o0 : ∀ s : List UInt8, s.length ≤ 100 → (Vl.node s 0 []).ok := fun s h => ⟨⟨by show (-9223372036854775808 : Int) ≤ 0; decide, by show (0 : Int) < 9223372036854775808; decide⟩, by show s.length ≤ maxLen; unfold maxLen; omega⟩
  rcases h4 with h4 | h4 | h4 | h4
  · have hr := hm _ h4
    have hs : soOf k = .bool := by unfold soOf; rw [if_pos h4]
    rw [hs]
    obtain ⟨w1, hw1⟩ : ∃ W, w.alloc (.cells #[.string ⟨#[102, 97, 108, 115, 101]⟩, .int .i64 0, .slice none 0 0, .string ⟨#[116, 114, 117, 101]⟩, .int .i64 0, .slice none 0 0] 36) = W := ⟨_, rfl⟩
    have hb1 : Below w.heap.size w w1 := by rw [← hw1]; exact (Below.refl _ _).alloc (Nat.le_refl _) _
    have hB1 : Blk w1 w.heap.size 36 #[.string ⟨#[102, 97, 108, 115, 101]⟩, .int .i64 0, .slice none 0 0, .string ⟨#[116, 114, 117, 101]⟩, .int .i64 0, .slice none 0 0] := by rw [← hw1]; exact Blk.new _ _ _
    have HV : Hid (VAt (fun b => w.heap.size ≤ b) w1 (some ⟨w.heap.size, 0, none⟩) 2 2 (vals .bool) ∧ Below w.heap.size w w1) := Lib.hid ⟨VAt_blk (es := [vE0 vF, vE0 vT]) hB1 rfl (fun e he => by
      simp only [List.mem_cons, List.not_mem_nil, or_false] at he
      rcases he with rfl | rfl <;> exact vE0_in rfl (o0 _ (by decide))) (Nat.le_refl _) rfl rfl (by decide), hb1⟩
    clear hb1 hB1 hm h4 hs o0
    go_enter Try.func13, Try.ntmps13
    go_wp2_with fail
    go_ret
    exact ⟨_, _, _, rfl, HV.out⟩
  · have hr := hm _ h4
    have hs : soOf k = .num := by unfold soOf; rw [if_neg (by omega), if_pos h4]
    rw [hs]
    obtain ⟨w1, hw1⟩ : ∃ W, w.alloc (.cells #[.string ⟨#[]⟩, .int .i64 0, .slice none 0 0, .string ⟨#[]⟩, .int .i64 1, .slice none 0 0, .string ⟨#[]⟩, .int .i64 2, .slice none 0 0, .string ⟨#[]⟩, .int .i64 99, .slice none 0 0] 36) = W := ⟨_, rfl⟩
    have hb1 : Below w.heap.size w w1 := by rw [← hw1]; exact (Below.refl _ _).alloc (Nat.le_refl _) _
    have hB1 : Blk w1 w.heap.size 36 #[.string ⟨#[]⟩, .int .i64 0, .slice none 0 0, .string ⟨#[]⟩, .int .i64 1, .slice none 0 0, .string ⟨#[]⟩, .int .i64 2, .slice none 0 0, .string ⟨#[]⟩, .int .i64 99, .slice none 0 0] := by rw [← hw1]; exact Blk.new _ _ _
    have HV : Hid (VAt (fun b => w.heap.size ≤ b) w1 (some ⟨w.heap.size, 0, none⟩) 4 4 (vals .num) ∧ Below w.heap.size w w1) := Lib.hid ⟨VAt_blk (es := [vE0 (vn 0), vE0 (vn 1), vE0 (vn 2), vE0 (vn 99)]) hB1 rfl (fun e he => by
      simp only [List.mem_cons, List.not_mem_nil, or_false] at he
      rcases he with rfl | rfl | rfl | rfl <;> exact vE0_in rfl ⟨⟨by decide, by decide⟩, by decide⟩) (Nat.le_refl _) rfl rfl (by decide), hb1⟩
    clear hb1 hB1 hm h4 hs o0
    go_enter Try.func13, Try.ntmps13
    go_wp2_with fail
    go_ret
    exact ⟨_, _, _, rfl, HV.out⟩
  · have hr := hm _ h4
    have hs : soOf k = .opt := by unfold soOf; rw [if_neg (by omega), if_neg (by omega), if_pos h4]
    rw [hs]
    obtain ⟨w1, hw1⟩ : ∃ W, w.alloc (.cells #[.string ⟨#[102, 97, 108, 115, 101]⟩, .int .i64 0, .slice none 0 0] 36) = W := ⟨_, rfl⟩
    have hb1 : Below w.heap.size w w1 := by rw [← hw1]; exact (Below.refl _ _).alloc (Nat.le_refl _) _
    have hB1 : Blk w1 w.heap.size 36 #[.string ⟨#[102, 97, 108, 115, 101]⟩, .int .i64 0, .slice none 0 0] := by rw [← hw1]; exact Blk.new _ _ _
    have hn1 : w1.heap.size = w.heap.size + 1 := by rw [← hw1]; simp
    obtain ⟨w2, hw2⟩ : ∃ W, w1.alloc (.cells #[.string ⟨#[116, 114, 117, 101]⟩, .int .i64 0, .slice none 0 0] 36) = W := ⟨_, rfl⟩
    have hb2 : Below w1.heap.size w1 w2 := by rw [← hw2]; exact (Below.refl _ _).alloc (Nat.le_refl _) _
    have hB2 : Blk w2 w1.heap.size 36 #[.string ⟨#[116, 114, 117, 101]⟩, .int .i64 0, .slice none 0 0] := by rw [← hw2]; exact Blk.new _ _ _
    rw [hn1] at hB2
    have hn2 : w2.heap.size = w.heap.size + 2 := by rw [← hw2]; simp [hn1]
    obtain ⟨w3, hw3⟩ : ∃ W, w2.alloc (.cells #[.string ⟨#[78, 111, 110, 101]⟩, .int .i64 0, .slice none 0 0, .string ⟨#[83, 111, 109, 101]⟩, .int .i64 0, .slice (some ⟨w.heap.size, 0, none⟩) 1 1, .string ⟨#[83, 111, 109, 101]⟩, .int .i64 0, .slice (some ⟨w.heap.size + 1, 0, none⟩) 1 1] 36) = W := ⟨_, rfl⟩
    have hb3 : Below w2.heap.size w2 w3 := by rw [← hw3]; exact (Below.refl _ _).alloc (Nat.le_refl _) _
    have hB3 : Blk w3 w2.heap.size 36 #[.string ⟨#[78, 111, 110, 101]⟩, .int .i64 0, .slice none 0 0, .string ⟨#[83, 111, 109, 101]⟩, .int .i64 0, .slice (some ⟨w.heap.size, 0, none⟩) 1 1, .string ⟨#[83, 111, 109, 101]⟩, .int .i64 0, .slice (some ⟨w.heap.size + 1, 0, none⟩) 1 1] := by rw [← hw3]; exact Blk.new _ _ _
    rw [hn2] at hB3
    have h13 : Below w1.heap.size w1 w3 := hb2.trans (hb3.mono hb2.size)
    have k1 := hB1.below h13 hB1.lt
    have k2 := hB2.below hb3 hB2.lt
    have HV : Hid (VAt (fun b => w.heap.size ≤ b) w3 (some ⟨w.heap.size + 2, 0, none⟩) 3 3 (vals .opt) ∧ Below w.heap.size w w3) := Lib.hid ⟨VAt_blk (es := [vE0 vNone, ⟨vSome vF, some ⟨w.heap.size, 0, none⟩, 1⟩, ⟨vSome vT, some ⟨w.heap.size + 1, 0, none⟩, 1⟩]) hB3 rfl (fun e he => by
      simp only [List.mem_cons, List.not_mem_nil, or_false] at he
      rcases he with rfl | rfl | rfl
      · exact vE0_in rfl (o0 _ (by decide))
      · exact ⟨(VAt_blk (F := fun b => w.heap.size ≤ b) (es := [vE0 vF]) k1 rfl (fun e he => by rw [List.mem_singleton.1 he]; exact vE0_in rfl (o0 _ (by decide))) (Nat.le_refl _) rfl rfl (by decide)).at_, ok_vs _, Nat.le_refl _, (show 1 ≤ maxLen by decide)⟩
      · exact ⟨(VAt_blk (F := fun b => w.heap.size ≤ b) (es := [vE0 vT]) k2 rfl (fun e he => by rw [List.mem_singleton.1 he]; exact vE0_in rfl (o0 _ (by decide))) (by omega) rfl rfl (by decide)).at_, ok_vs _, Nat.le_refl _, (show 1 ≤ maxLen by decide)⟩) (by omega) rfl rfl (by decide), hb1.trans (h13.mono hb1.size)⟩
    have HN := Lib.hid (And.intro hn1 (And.intro hn2 hw3))
    clear hb1 hB1 hb2 hB2 hb3 hB3 h13 k1 k2 hm h4 hs o0 hn1 hn2 hw3
    go_enter Try.func13, Try.ntmps13
    go_wp2_with fail
    go_ret
    refine ⟨_, _, _, rfl, ?_⟩
    rw [HN.out.1, HN.out.2.1, HN.out.2.2]
    exact HV.out
  · have hr := hm _ h4
    have hs : soOf k = .exn := by unfold soOf; rw [if_neg (by omega), if_neg (by omega), if_neg (by omega)]
    rw [hs]
    obtain ⟨w1, hw1⟩ : ∃ W, w.alloc (.cells #[.string ⟨#[69]⟩, .int .i64 0, .slice none 0 0, .string ⟨#[70]⟩, .int .i64 0, .slice none 0 0, .string ⟨#[97, 110, 111, 116, 104, 101, 114]⟩, .int .i64 0, .slice none 0 0] 36) = W := ⟨_, rfl⟩
    have hb1 : Below w.heap.size w w1 := by rw [← hw1]; exact (Below.refl _ _).alloc (Nat.le_refl _) _
    have hB1 : Blk w1 w.heap.size 36 #[.string ⟨#[69]⟩, .int .i64 0, .slice none 0 0, .string ⟨#[70]⟩, .int .i64 0, .slice none 0 0, .string ⟨#[97, 110, 111, 116, 104, 101, 114]⟩, .int .i64 0, .slice none 0 0] := by rw [← hw1]; exact Blk.new _ _ _
    have HV : Hid (VAt (fun b => w.heap.size ≤ b) w1 (some ⟨w.heap.size, 0, none⟩) 3 3 (vals .exn) ∧ Below w.heap.size w w1) := Lib.hid ⟨VAt_blk (es := [vE0 vE, vE0 vFx, vE0 vAn]) hB1 rfl (fun e he => by
      simp only [List.mem_cons, List.not_mem_nil, or_false] at he
      rcases he with rfl | rfl | rfl <;> exact vE0_in rfl (o0 _ (by decide))) (Nat.le_refl _) rfl rfl (by decide), hb1⟩
    clear hb1 hB1 hm h4 hs o0
    go_enter Try.func13, Try.ntmps13
    go_wp2_with fail
    go_ret
    exact ⟨_, _, _, rfl, HV.out⟩
end Go.Proofs.Ytigaondgopahgaa
