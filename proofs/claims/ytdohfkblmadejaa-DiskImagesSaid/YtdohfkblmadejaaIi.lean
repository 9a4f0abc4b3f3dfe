/- DiskImages, where there is no disk. -/
import Derived.Test.YtdohfkblmadejaaIh
namespace Go.Proofs.Ytdohfkblmadejaa
open Go.RowKit Dsk

def smallB (rows : List (List UInt8)) : Prop := ∀ b ∈ rows, b.length ≤ 1024

set_option maxRecDepth 20000 in
set_option maxHeartbeats 4000000 in
theorem images_no (n cap len1 cap1 len2 cap2 : Nat) (I A B : Option Addr) (rows : List (List UInt8)) (ls ms : List St) (w : World) (hn : n ≤ 64 ∨ 4096 < n) (hreach : n * 24 ≤ 140737488351232) (hrl : rows.length = n) (hI : Img w I rows)
    (hlen1 : ls.length = len1) (hA : Steps w A ls) (hv1 : vastB ls = false) (hlen2 : ms.length = len2) (hB : Steps w B ms) (hv2 : vastB ms = false)
    (hld : ∀ (W : World) (A' : Option Addr) (c' : Nat), Img W A' rows → Calls Try.prog 21 #[.slice A' n c'] W fun e w' => e = .returned (.tuple #[.pointer none, .int .i64 1]) ∧ W = w')
    (hrld : ∀ (W : World) (A' : Option Addr) (c' : Nat), Img W A' rows → Calls Try.prog 22 #[.slice A' n c'] W fun e w' => e = .returned (.tuple #[.pointer none, .int .i64 1]) ∧ Below W.heap.size W w') :
    Calls Try.prog 4 #[.slice I n cap, .slice A len1 cap1, .slice B len2 cap2] w fun e W' => e = .returned (.bool true) ∧ Below w.heap.size w W' := by
  have h0 := vast_any A len1 cap1 ls w hlen1 hA
  rw [hv1] at h0
  have H0 := Lib.hid h0
  have h1 := vast_any B len2 cap2 ms w hlen2 hB
  rw [hv2] at h1
  have H1 := Lib.hid h1
  have HI := Lib.hid hI
  have HN := Lib.hid hrl
  have HLD := Lib.hid hld
  have HRLD := Lib.hid hrld
  clear hI hrl hld hrld h0 h1 hlen1 hA hv1 hlen2 hB hv2
  have HSML : Hid (smallB (rows.take 0)) := Lib.hid (fun b hb => by simp at hb)
  have HD : Hid ((decide ((64 : Int) < (n : Int)) = false) ∨ (decide ((64 : Int) < (n : Int)) = true ∧ decide ((n : Int) ≤ 4096) = false)) := Lib.hid (by
    by_cases h : n ≤ 64
    · exact .inl (by simp; omega)
    · exact .inr ⟨by simp; omega, by simp; omega⟩)
  clear hn
  have hn9 : n < 5864062014700 := by omega
  clear hreach
  rcases HD.out with d1 | ⟨d1, d2⟩
  all_goals
    clear HD
    go_enter Try.func4, Try.ntmps4
    go_wp2_with fail
    refine H0.out.mono ?_
    rintro e w' ⟨rfl, rfl⟩
    go_wp2_with fail
    refine H1.out.mono ?_
    rintro e w' ⟨rfl, rfl⟩
    go_wp2_with fail
    go_loopw [7] (fun i wr => ∃ k : Nat, k ≤ n ∧ i = .int .i64 (k : Int) ∧ Hid (w = wr) ∧ Hid (smallB (rows.take k))) (fun i _ => n - (intOf i).toNat)
    case atStart => exact ⟨0, Nat.zero_le _, rfl, Lib.hid rfl, HSML⟩
    case round =>
      obtain ⟨k, hk, rfl, hw, hs⟩ := hrel
      obtain rfl := hw.out
      clear hw HSML
      by_cases hlt : k < n
      · have hd : decide ((k : Int) < (n : Int)) = true := by simpa using hlt
        obtain ⟨bs, hbs⟩ : ∃ bs, rows[k]? = some bs := ⟨_, List.getElem?_eq_getElem (by rw [HN.out]; exact hlt)⟩
        obtain ⟨b, off, v, rfl, hblt, hc, A2, c2, rfl, hl2, hm2, hby, _⟩ := HI.out k bs hbs
        have HS2 : Hid (bs.length ≤ 1024 → smallB (rows.take (k + 1))) := Lib.hid (fun h => by
          obtain ⟨hk', e⟩ := List.getElem?_eq_some_iff.1 hbs
          rw [List.take_succ_eq_append_getElem hk', e]
          intro b hb
          rcases List.mem_append.1 hb with hb | hb
          · exact hs.out b hb
          · rw [List.mem_singleton.1 hb]; exact h)
        generalize bs.length = L at *
        clear hbs hby hl2 hm2 hs hblt
        by_cases hL : L ≤ 1024
        · have d5 : decide ((1024 : Int) < (L : Int)) = false := by simp; omega
          have HS3 := Lib.hid (HS2.out hL)
          clear HS2 hL
          go_wp2_with fail
          go_roundw
          case rel => exact ⟨k + 1, by omega, by go_num, Lib.hid trivial, HS3⟩
          case measure => simp [intOf]; omega
        · have d5 : decide ((1024 : Int) < (L : Int)) = true := by simp; omega
          have HW := Lib.hid (works_any w)
          clear HS2 hL
          go_wp2_with fail
          refine HW.out.mono ?_
          rintro e w2 ⟨rfl, hb⟩
          have HB := Lib.hid hb
          clear hb
          go_wp2_with fail
          go_ret
          exact ⟨rfl, HB.out⟩
      · obtain rfl : n = k := by omega
        have hd : decide ((n : Int) < (n : Int)) = false := by simp
        have hsm := hs.out
        rw [List.take_of_length_le (by rw [HN.out]; exact Nat.le_refl _)] at hsm
        have HSM := Lib.hid hsm
        have H2 := Lib.hid (cimg_any I n cap rows w HN.out hn9 HI.out)
        clear hs hsm
        go_wp2_with fail
        refine H2.out.mono ?_
        rintro e w1 ⟨sv, rfl, hap⟩
        obtain ⟨sA, sc, hsv, _, _, himg⟩ := hap.own.img
        rw [HN.out] at hsv
        subst hsv
        have HB1 := Lib.hid hap.bel
        have HIM := Lib.hid himg
        have H3 := Lib.hid (HLD.out w1 sA sc himg)
        have H4 := Lib.hid (HRLD.out w1 I cap (HI.out.below hap.bel))
        clear hap himg H2
        go_wp2_with fail
        refine H3.out.mono ?_
        rintro e w' ⟨rfl, rfl⟩
        go_wp2_with fail
        refine H4.out.mono ?_
        rintro e w2 ⟨rfl, hb2⟩
        have h5 := same_any sA I n n sc cap rows rows w2 HN.out HN.out (HIM.out.below hb2) (HI.out.below (HB1.out.trans (hb2.mono HB1.out.size))) (by omega) (fun b hb => by have := HSM.out b hb; omega) (fun b hb => by have := HSM.out b hb; omega)
        rw [decide_eq_true (rfl : rows = rows)] at h5
        have H5 := Lib.hid h5
        have HB2 := Lib.hid (HB1.out.trans (hb2.mono HB1.out.size))
        clear hb2 h5 H3 H4
        go_wp2_with fail
        refine H5.out.mono ?_
        rintro e w3 ⟨rfl, hb3⟩
        have HB3 := Lib.hid (HB2.out.trans (hb3.mono HB2.out.size))
        clear hb3 H5
        have HW := Lib.hid (works_any w3)
        go_wp2_with fail
        refine HW.out.mono ?_
        rintro e w4 ⟨rfl, hb⟩
        have HB := Lib.hid (HB3.out.trans (hb.mono HB3.out.size))
        clear hb
        go_wp2_with fail
        go_ret
        exact ⟨rfl, HB.out⟩
end Go.Proofs.Ytdohfkblmadejaa
