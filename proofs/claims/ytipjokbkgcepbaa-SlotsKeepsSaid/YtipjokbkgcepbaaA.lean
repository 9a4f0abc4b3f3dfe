/- Whether some bytes are a page. -/
import Derived.Test.YtipjokbkgcepbaaS
import Derived.Test.YtipjokbkgcepbaaM
namespace Go.Proofs.Ytipjokbkgcepbaa
open Go.RowKit Slt

/-- What the bytes of a page read as, where there are some. -/
theorem Bytes.cellAt {w : World} {A : Option Addr} {p : List UInt8} (h : Bytes w A p) {b off : Nat} (hA : A = some ⟨b, off, none⟩) {k : Nat} (hk : k < p.length) : w.cell? ⟨b, off + k, none⟩ = some (.int .u8 ((p.getD k 0).toNat : Int)) := by
  obtain ⟨b', off', e, _, hc⟩ := h k p[k] (List.getElem?_eq_getElem hk)
  rw [hA] at e
  cases e
  rw [hc]; simp [List.getD, hk]
theorem Bytes.ex {w : World} {A : Option Addr} {p : List UInt8} (h : Bytes w A p) (hp : 0 < p.length) : ∃ b off, A = some ⟨b, off, none⟩ ∧ b < w.heap.size := by
  obtain ⟨b, off, e, hb, _⟩ := h 0 p[0] (List.getElem?_eq_getElem hp)
  exact ⟨b, off, e, hb⟩

set_option maxHeartbeats 1000000 in
theorem right_any (A : Option Addr) (len cap : Nat) (p : List UInt8) (w : World) (hlen : p.length = len) (hA : Bytes w A p) (hcap : len ≤ cap) (hcm : cap ≤ maxLen) :
    Calls Try.prog 13 #[.slice A len cap] w fun e w' => e = .returned (.bool (okB p)) ∧ w = w' := by
  unfold maxLen at hcm
  by_cases h1 : len = 0
  · have hb : okB p = false := decide_eq_false fun h => by have := h.ne; omega
    have d1 : ((len : Int) == 0) = true := by simp; omega
    rw [hb]
    clear hA
    go_enter Try.func13, Try.ntmps13
    go_wp2
    go_ret
    exact ⟨rfl, rfl⟩
  have d1 : ((len : Int) == 0) = false := by simp; omega
  by_cases h2 : 248 < len
  · have hb : okB p = false := decide_eq_false fun h => by have := h.room; omega
    have d2 : decide ((248 : Int) < (len : Int)) = true := by simp; omega
    rw [hb]
    clear hA
    go_enter Try.func13, Try.ntmps13
    go_wp2
    go_ret
    exact ⟨rfl, rfl⟩
  have d2 : decide ((248 : Int) < (len : Int)) = false := by simp; omega
  obtain ⟨b, off, rfl, _⟩ := hA.ex (by omega)
  have c0 := hA.cellAt rfl (k := 0) (by omega)
  rw [Nat.add_zero] at c0
  obtain ⟨n, hn⟩ : ∃ n, (p.getD 0 0).toNat = n := ⟨_, rfl⟩
  have hcn : cnt p = n := hn
  have hn2 : n < 256 := by rw [← hcn]; exact cnt_lt p
  rw [hn] at c0
  have f1 : IntKind.i64.wrap (1 + (n : Int)) = 1 + n := IntWalk.i64_in _ (by omega)
  by_cases h3 : len < 1 + n
  · have hb : okB p = false := decide_eq_false fun h => by have := h.head; omega
    have d3 : decide ((len : Int) < 1 + (n : Int)) = true := by simp; omega
    rw [hb]
    clear hA hn
    go_enter Try.func13, Try.ntmps13
    go_wp2
    go_ret
    exact ⟨rfl, rfl⟩
  have d3 : decide ((len : Int) < 1 + (n : Int)) = false := by simp; omega
  obtain ⟨sl, hsl⟩ : ∃ sl, (lens p) = sl := ⟨_, rfl⟩
  have hsll : sl.length = n := by rw [← hsl, lens_length (by omega), hcn]
  by_cases h5 : 0 < n
  · have d5 : decide ((0 : Int) < (n : Int)) = true := by simpa using h5
    have cn := hA.cellAt rfl (k := n) (by omega)
    by_cases h6 : p.getD n 0 = 0
    · have hb : okB p = false := decide_eq_false fun h => by have := h.last (by omega); rw [hcn] at this; exact this h6
      rw [h6] at cn
      rw [hb]
      clear hA hn h6
      go_enter Try.func13, Try.ntmps13
      go_wp2
      go_ret
      exact ⟨rfl, rfl⟩
    · have h7 : 0 < (p.getD n 0).toNat := by
        rcases Nat.eq_zero_or_pos (p.getD n 0).toNat with h | h
        · exact absurd (UInt8.toNat_inj.1 (by simpa using h)) h6
        · exact h
      obtain ⟨z, hz⟩ : ∃ z, (p.getD n 0).toNat = z := ⟨_, rfl⟩
      rw [hz] at cn h7
      have d6 : ((z : Int) == 0) = false := by simp; omega
      obtain ⟨qs, hqs⟩ : ∃ q, sumL sl = q := ⟨_, rfl⟩
      have hb : okB p = decide (1 + n + qs = len) := by
        unfold okB
        rw [← hqs]
        refine decide_eq_decide.2 ⟨fun h => ?_, fun h => ⟨by omega, by omega, by omega, fun _ => by rw [hcn]; exact h6, by rw [hcn, hsl]; omega⟩⟩
        have := h.all; rw [hcn, hsl] at this; omega
      rw [hb]
      have HQS := Lib.hid hqs
      have HB := Lib.hid hA
      have HSL := Lib.hid hsl
      have HCN := Lib.hid hcn
      have HPL := Lib.hid hlen
      have hle : n < len := by omega
      clear hA hn hz h6 hsl hb hcn hlen hqs
      go_enter Try.func13, Try.ntmps13
      go_wp2
      go_loop [4, 6, 42] (fun s g i => ∃ k : Nat, k ≤ n ∧ i = .int .i64 (k : Int) ∧ s = .int .i64 ((1 + n + sumL (sl.take k) : Nat) : Int)) (fun _ _ i => n - (intOf i).toNat)
      case atStart => exact ⟨0, Nat.zero_le _, rfl, by simp [sumL]⟩
      case round =>
        obtain ⟨k, hk, rfl, rfl⟩ := hrel
        by_cases hlt : k < n
        · have hd : decide ((k : Int) < (n : Int)) = true := by simpa using hlt
          obtain ⟨x, hx⟩ : ∃ x, sl[k]? = some x := ⟨_, List.getElem?_eq_getElem (by rw [hsll]; exact hlt)⟩
          have hc := HB.out.cellAt rfl (k := 1 + k) (by rw [HPL.out]; omega)
          have hg : p.getD (1 + k) 0 = x := by
            rw [← HSL.out, lens_get p k (by rw [HCN.out]; exact hlt)] at hx
            unfold List.getD; rw [hx]; rfl
          rw [hg, ← Nat.add_assoc] at hc
          have hs := sumL_succ hx
          have hsb : sumL (sl.take k) ≤ 255 * k := by
            have : ∀ (l : List UInt8), sumL l ≤ 255 * l.length := fun l => by
              induction l with
              | nil => simp [sumL]
              | cons c r ih => simp only [sumL, List.length_cons]; have := c.toNat_lt; omega
            have h := this (sl.take k)
            rw [List.length_take] at h
            omega
          obtain ⟨q, hq⟩ : ∃ q, sumL (sl.take k) = q := ⟨_, rfl⟩
          rw [hq] at hs hsb ⊢
          have HS := Lib.hid hs
          have hxl := x.toNat_lt
          have hkn : k < 1 + n - 1 := by omega
          clear hx hg hs hq
          go_wp2
          go_round
          case rel => exact ⟨k + 1, by omega, by go_num, by rw [HS.out]; go_num⟩
          case measure => simp [intOf]; omega
        · obtain rfl : n = k := by omega
          have hd : decide ((n : Int) < (n : Int)) = false := by simp
          have hf : sl.take n = sl := List.take_of_length_le (by omega)
          rw [hf, HQS.out]
          have hqd : ((1 + (n : Int) + (qs : Int)) == (len : Int)) = decide (1 + n + qs = len) := by
            by_cases e : 1 + n + qs = len
            · rw [decide_eq_true e]; simp; omega
            · rw [decide_eq_false e]; simp; omega
          clear hf
          go_wp2
          go_ret
          exact ⟨rfl, rfl⟩
  · obtain rfl : n = 0 := by omega
    have hb : okB p = decide (1 = len) := by
      have hs : sumL sl = 0 := by rw [List.eq_nil_of_length_eq_zero hsll]; rfl
      unfold okB
      refine decide_eq_decide.2 ⟨fun h => ?_, fun h => ⟨by omega, by omega, by omega, fun h => by omega, by rw [hcn, hsl]; omega⟩⟩
      have := h.all; rw [hcn, hsl] at this; omega
    have hqd : ((1 : Int) == (len : Int)) = decide (1 = len) := by
      by_cases e : 1 = len
      · rw [← e]; simp
      · rw [decide_eq_false e]; simp; omega
    rw [hb]
    have hle : 1 ≤ len := by omega
    clear hA hn hsl hb hcn hlen hsll
    by_cases hc1 : cap = 1
    all_goals
      go_enter Try.func13, Try.ntmps13
      go_wp2
      go_loop [4, 6, 42] (fun s g i => i = .int .i64 0 ∧ s = .int .i64 1) (fun _ _ _ => 0)
      case atStart => exact ⟨rfl, rfl⟩
      case round =>
        obtain ⟨rfl, rfl⟩ := hrel
        go_wp2
        go_ret
        exact ⟨rfl, rfl⟩
end Go.Proofs.Ytipjokbkgcepbaa
