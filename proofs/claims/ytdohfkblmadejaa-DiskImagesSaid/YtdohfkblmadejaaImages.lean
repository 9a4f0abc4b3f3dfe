/- DiskImages. -/
import Derived.Test.YtdohfkblmadejaaIj
import Derived.SizedLaws
namespace Go.Proofs.Ytdohfkblmadejaa
open Go.RowKit Go.ChangeShapes Go.WideShapes Dsk

set_option maxRecDepth 20000 in
set_option maxHeartbeats 2000000 in
theorem images_any (n cap len1 cap1 len2 cap2 : Nat) (I A B : Option Addr) (rows : List (List UInt8)) (ls ms : List St) (w : World) (hreach : n * 24 ≤ 140737488351232) (hrl : rows.length = n) (hI : Img w I rows)
    (hlen1 : ls.length = len1) (hA : Steps w A ls) (hlen2 : ms.length = len2) (hB : Steps w B ms) :
    Calls Try.prog 4 #[.slice I n cap, .slice A len1 cap1, .slice B len2 cap2] w fun e W' => e = .returned (.bool true) ∧ Below w.heap.size w W' := by
  cases hv1 : vastB ls
  · cases hv2 : vastB ms
    · by_cases hn : n ≤ 64 ∨ 4096 < n
      · have hfar0 : ¬ (16 ≤ n ∧ n ≤ 64) → n < 16 ∨ 4096 < n := fun h => by omega
        by_cases hn2 : 16 ≤ n ∧ n ≤ 64
        · cases hf : fitB rows
          · exact images_no n cap len1 cap1 len2 cap2 I A B rows ls ms w hn hreach hrl hI hlen1 hA hv1 hlen2 hB hv2
              (fun W A' c' h => load_no A' n c' rows W hrl ⟨hn2.1, by omega⟩ h hf)
              (fun W A' c' h => rload_no A' n c' rows W hrl ⟨hn2.1, by omega⟩ h hf)
          · exact images_walk n cap len1 cap1 len2 cap2 I A B rows ls ms w hn2 hrl hf hI hlen1 hA hv1 hlen2 hB hv2
        · have hfar := hfar0 hn2
          exact images_no n cap len1 cap1 len2 cap2 I A B rows ls ms w hn hreach hrl hI hlen1 hA hv1 hlen2 hB hv2
            (fun W A' c' _ => load_far A' n c' W hfar)
            (fun W A' c' _ => (rload_far A' n c' W hfar).mono (by rintro e w' ⟨rfl, rfl⟩; exact ⟨rfl, Below.refl _ _⟩))
      · have d1 : decide ((64 : Int) < (n : Int)) = true := by simp; omega
        have d2 : decide ((n : Int) ≤ 4096) = true := by simp; omega
        have h0 := vast_any A len1 cap1 ls w hlen1 hA
        rw [hv1] at h0
        have H0 := Lib.hid h0
        have h1 := vast_any B len2 cap2 ms w hlen2 hB
        rw [hv2] at h1
        have H1 := Lib.hid h1
        have HW := Lib.hid (works_any w)
        clear h0 h1 hv1 hv2 hn hI hA hB hlen1 hlen2 hrl
        go_enter Try.func4, Try.ntmps4
        go_wp2_with fail
        refine H0.out.mono ?_
        rintro e w' ⟨rfl, rfl⟩
        go_wp2_with fail
        refine H1.out.mono ?_
        rintro e w' ⟨rfl, rfl⟩
        go_wp2_with fail
        refine HW.out.mono ?_
        rintro e w2 ⟨rfl, hb⟩
        have HB := Lib.hid hb
        clear hb
        go_wp2_with fail
        go_ret
        exact ⟨rfl, HB.out⟩
    · have h0 := vast_any A len1 cap1 ls w hlen1 hA
      rw [hv1] at h0
      have H0 := Lib.hid h0
      have h1 := vast_any B len2 cap2 ms w hlen2 hB
      rw [hv2] at h1
      have H1 := Lib.hid h1
      have HW := Lib.hid (works_any w)
      clear h0 h1 hv1 hv2 hI hA hB hlen1 hlen2 hrl
      go_enter Try.func4, Try.ntmps4
      go_wp2_with fail
      refine H0.out.mono ?_
      rintro e w' ⟨rfl, rfl⟩
      go_wp2_with fail
      refine H1.out.mono ?_
      rintro e w' ⟨rfl, rfl⟩
      go_wp2_with fail
      refine HW.out.mono ?_
      rintro e w2 ⟨rfl, hb⟩
      have HB := Lib.hid hb
      clear hb
      go_wp2_with fail
      go_ret
      exact ⟨rfl, HB.out⟩
  · have h0 := vast_any A len1 cap1 ls w hlen1 hA
    rw [hv1] at h0
    have H0 := Lib.hid h0
    have HW := Lib.hid (works_any w)
    clear h0 hv1 hI hA hB hlen1 hlen2 hrl
    go_enter Try.func4, Try.ntmps4
    go_wp2_with fail
    refine H0.out.mono ?_
    rintro e w' ⟨rfl, rfl⟩
    go_wp2_with fail
    refine HW.out.mono ?_
    rintro e w2 ⟨rfl, hb⟩
    have HB := Lib.hid hb
    clear hb
    go_wp2_with fail
    go_ret
    exact ⟨rfl, HB.out⟩

/-- An image that came in: as it was opened, and its size is within the form's reach. -/
def OpenedImZ (w : World) (v : Value) : Prop := ∃ A len cap rows, v = .slice A len cap ∧ rows.length = len ∧ Img w A rows ∧ len * 24 ≤ 140737488351232
theorem openedImZ {H : Type} {enc : TypeId × Value → H} {W : World} {v : Value} {d : DataW H} {p : List MemPlace} {ts : List TypeId} {ds : List (DataW H)} (hsz : (DataW.weightsEach Try.prog ts ds).all (· ≤ reachBytes) = true) {j : Nat} (ht : ts[j]? = some 42) (hd : ds[j]? = some d)
    (hok : Value.okWide Try.prog W .any 0 42 v) (h : DataW.Trod enc Try.prog W 0 (fun _ => true) true 42 v d p) : OpenedImZ W v := by
  obtain ⟨A, len, cap, rows, rfl, h1, _, _, h4⟩ := openedIm hok h
  refine ⟨A, len, cap, rows, rfl, h1, h4, ?_⟩
  obtain ⟨fuel, hf⟩ := h
  rcases Deep.open_int_rows Try.underlying42 Try.underlying32 Try.underlying5 (by kernel_rfl) (by kernel_rfl) hf with ⟨hcs, _⟩ | ⟨x, l, c, A', L, C, Z, hcs, _, hl, hm, hx, _⟩
  · simp [Value.cells] at hcs
    omega
  · simp [Value.cells] at hcs
    obtain ⟨_, rfl, rfl⟩ := hcs
    have hde := congrArg Prod.fst hx
    dsimp only at hde
    have := sized_slice hsz ht (hd.trans (congrArg some hde)) Try.underlying42
    rw [show Try.prog.bytesOf 32 = 24 by kernel_rfl] at this
    simp only [List.length_map, List.length_range, reachBytes] at this
    omega
end Go.Proofs.Ytdohfkblmadejaa
