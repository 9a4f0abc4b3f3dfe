/- Images copied by the reference. -/
import Derived.Test.YtdohfkblmadejaaCpb
namespace Go.Proofs.Ytdohfkblmadejaa
open Go.RowKit Dsk

/-- An append, of as many as may be. -/
theorem SecsO.pushW {w : World} {E : Nat → Prop} {sv : Value} {S : List (List UInt8)} (h : SecsO w E sv S) (bs : List UInt8) (v : Value) (hv : Sec w E v bs) (b : Nat) (h0 : w.cell? ⟨b, 0, none⟩ = some v) (hE : ∀ k, sv.ownBlock = some k → ¬ E k) (hr : S.length < 5864062014700) :
    ∃ v' w', (Builtin.append_ #[42, 42] 42 #[sv, .slice (some ⟨b, 0, none⟩) 1 1]).run Try.prog w = .ok v' w' ∧ SecsO w' E v' (S ++ [bs]) ∧ w.grownBy w' sv.ownBlock ∧ (v'.ownBlock = sv.ownBlock ∨ v'.ownBlock = some w.heap.size) := by
  obtain ⟨vs, ho, hs⟩ := h.own
  have hI : (Try.prog.info? 32).map (fun i => (i.zero, i.size, i.bytes)) = some (some (.slice none 0 0), 1, 24) := by kernel_rfl
  obtain ⟨i0, hi, hz0, hz1, hz2⟩ := info_parts hI
  obtain ⟨A, c, rfl, hsec⟩ := hv
  have hl : vs.length = S.length := by have := ho.1; omega
  have hcell : ∀ (j : Nat) (u : Value), [Value.slice A bs.length c][j]? = some u → w.cell? ((⟨b, 0, none⟩ : Addr).add j) = some u := fun j u hj => by
    have e2 : (⟨b, 0, none⟩ : Addr).add j = ⟨b, 0 + j, none⟩ := by unfold Addr.add; split <;> simp_all
    rw [e2, Nat.zero_add]
    rcases j with _ | j
    · cases hj; exact h0
    · simp at hj
  obtain ⟨v', w', hrun, h2, h3, _, h5⟩ := run_append_own_at (P := Try.prog) w 0 42 42 32 i0 (.slice none 0 0) 1 24 Try.underlying42 hi hz0 hz1 hz2 rfl (by decide) sv S.length _ ho ⟨b, 0, none⟩ 1 1 [.slice A bs.length c] (by simp) hcell
    (fun u hu => by rw [List.mem_singleton.1 hu]; rfl) (by unfold maxLen; omega) (by omega) (Nat.zero_le _)
  have hsame : ∀ k, E k → k < w.heap.size → w'.heap[k]? = w.heap[k]? := fun k hk hlt => h3.block k hlt (fun e => hE k e.symm hk)
  refine ⟨v', w', hrun, ⟨vs ++ [.slice A bs.length c], by rw [List.length_append, List.length_singleton]; exact h2, fun k q hq => ?_⟩, h3, h5⟩
  by_cases hk : k < S.length
  · rw [List.getElem?_append_left hk] at hq
    obtain ⟨u, e, hu⟩ := hs k q hq
    exact ⟨u, by rw [List.getElem?_append_left (by omega)]; exact e, hu.same h3.size hsame⟩
  · rw [List.getElem?_append_right (by omega)] at hq
    have hk0 : k - S.length = 0 := by
      have := (List.getElem?_eq_some_iff.1 hq).1
      simp at this; omega
    rw [hk0] at hq
    cases hq
    exact ⟨.slice A bs.length c, by rw [List.getElem?_append_right (by omega), hl, hk0]; rfl, Sec.same ⟨A, c, rfl, hsec⟩ h3.size hsame⟩

/-- Rows that were appended, all of them behind w2. -/
structure App (w2 wr : World) (rows : List (List UInt8)) (sv : Value) : Prop where
  own : SecsO wr (fun j => w2.heap.size ≤ j ∧ j < wr.heap.size ∧ sv.ownBlock ≠ some j) sv rows
  lo : ∀ j, sv.ownBlock = some j → w2.heap.size ≤ j
  bel : Below w2.heap.size w2 wr
theorem App.nil (w : World) : App w w [] (.slice none 0 0) := ⟨SecsO.nil _ _, fun _ hj => (by cases hj), Below.refl _ _⟩
theorem App.below {w2 wr w' : World} {rows : List (List UInt8)} {sv : Value} (h : App w2 wr rows sv) (hb : Below wr.heap.size wr w') : App w2 w' rows sv :=
  ⟨(h.own.same hb.size (fun j _ hj => hb.block j hj) (fun j hj => hb.block j (h.own.lt j hj))).mono fun j hj => ⟨hj.1, Nat.lt_of_lt_of_le hj.2.1 hb.size, hj.2.2⟩, h.lo, h.bel.trans (hb.mono h.bel.size)⟩
theorem App.push {w2 wr w3 : World} {rows : List (List UInt8)} {sv v : Value} {bs : List UInt8} (h : App w2 wr rows sv) (hl : rows.length < 5864062014700) (hS : Sec w3 (fun j => wr.heap.size ≤ j ∧ j < w3.heap.size) v bs) (hb : Below wr.heap.size wr w3) :
    ∃ v' w5, (Builtin.append_ #[42, 42] 42 #[sv, .slice (some ⟨w3.heap.size, 0, none⟩) 1 1]).run Try.prog (w3.alloc (.cells #[v] 32)) = .ok v' w5 ∧ App w2 w5 (rows ++ [bs]) v' := by
  have h2 := h.bel.size
  have h3 := hb.size
  have hol := h.own.lt
  have hb4 : Below wr.heap.size wr (w3.alloc (.cells #[v] 32)) := hb.alloc h3 _
  have hO : SecsO (w3.alloc (.cells #[v] 32)) (fun j => w2.heap.size ≤ j ∧ j < w3.heap.size ∧ sv.ownBlock ≠ some j) sv rows :=
    (h.own.same hb4.size (fun j _ hj => hb4.block j hj) (fun j hj => hb4.block j (hol j hj))).mono fun j hj => ⟨hj.1, by omega, hj.2.2⟩
  have hc := (Blk.new w3 32 #[v]).cell 0
  have hS4 : Sec (w3.alloc (.cells #[v] 32)) (fun j => w2.heap.size ≤ j ∧ j < w3.heap.size ∧ sv.ownBlock ≠ some j) v bs :=
    (hS.same (by rw [World.size_alloc]; omega) (fun j hj hlt => Below.heap_alloc _ _ _ hlt)).mono fun j hj => ⟨by omega, hj.2, fun e => by have := hol _ e; omega⟩
  obtain ⟨v', w5, hrun, hp, hg, ho⟩ := hO.pushW bs _ hS4 w3.heap.size hc (fun j hj e => e.2.2 hj) hl
  have hgs := hg.size
  rw [World.size_alloc] at hgs ho
  refine ⟨v', w5, hrun, ?_, ?_, ?_⟩
  · refine hp.mono fun j hj => ⟨hj.1, by omega, fun e => ?_⟩
    rcases ho with ho | ho
    · exact hj.2.2 (ho ▸ e)
    · rw [ho] at e; injection e with e; omega
  · intro j hj
    rcases ho with ho | ho
    · exact h.lo j (ho ▸ hj)
    · rw [ho] at hj; injection hj with hj; omega
  · exact (h.bel.trans (hb4.mono h2)).grown hg (by rw [World.size_alloc]; omega) h.lo

set_option maxHeartbeats 1000000 in
theorem cimg_any (A : Option Addr) (n cap : Nat) (rows : List (List UInt8)) (w : World) (hn : rows.length = n) (hn2 : n < 5864062014700) (hA : Img w A rows) :
    Calls Try.prog 20 #[.slice A n cap] w fun e w' => ∃ sv, e = .returned sv ∧ App w w' rows sv := by
  have HN := Lib.hid hn
  have HA := Lib.hid hA
  have HST : Hid (App w w (rows.take 0) (.slice none 0 0)) := Lib.hid (App.nil w)
  clear hn hA
  go_enter Try.func20, Try.ntmps20
  go_wp2_with fail
  go_loopw [3, 4] (fun sv i wr => ∃ k : Nat, k ≤ n ∧ i = .int .i64 (k : Int) ∧ Hid (App w wr (rows.take k) sv)) (fun _ i _ => n - (intOf i).toNat)
  case atStart => exact ⟨0, Nat.zero_le _, rfl, HST⟩
  case round =>
    obtain ⟨k, hk, rfl, hI⟩ := hrel
    clear HST
    by_cases hlt : k < n
    · have hd : decide ((k : Int) < (n : Int)) = true := by simpa using hlt
      obtain ⟨bs, hbs⟩ : ∃ bs, rows[k]? = some bs := ⟨_, List.getElem?_eq_getElem (by rw [HN.out]; exact hlt)⟩
      obtain ⟨b, off, v, rfl, hblt, hc, A2, c2, rfl, hl2, hm2, hby, _⟩ := HA.out k bs hbs
      have hc' := (hI.out.bel.cell (p := ⟨b, off + k, none⟩) hblt).trans hc
      obtain ⟨L, hL⟩ : ∃ L, bs.length = L := ⟨_, rfl⟩
      have H2 := Lib.hid (copy_any A2 L c2 bs wr hL (hby.below hI.out.bel) (by omega))
      rw [hL] at hc'
      have HBS := Lib.hid hbs
      clear hc hby hl2 hm2 hbs hL hblt
      go_wp2_with fail
      refine H2.out.mono ?_
      rintro e w3 ⟨c3, rfl, hR3, hb3⟩
      have hlb := hb3.size
      have hS3 : Sec w3 (fun j => wr.heap.size ≤ j ∧ j < w3.heap.size) (.slice (some ⟨wr.heap.size, 0, none⟩) L c3) bs :=
        ⟨some ⟨wr.heap.size, 0, none⟩, c3, by rw [hR3.long], by rw [hR3.long]; exact hR3.le, hR3.max, hR3.bytes, fun p e => by cases e; exact ⟨Nat.le_refl _, hR3.lt⟩⟩
      obtain ⟨v', w5, hrun, hA5⟩ := hI.out.push (bs := bs) (by rw [List.length_take]; omega) hS3 hb3
      have hsnoc : rows.take k ++ [bs] = rows.take (k + 1) := by
        obtain ⟨hk', e⟩ := List.getElem?_eq_some_iff.1 HBS.out
        rw [List.take_succ_eq_append_getElem hk', e]
      rw [hsnoc] at hA5
      have HRUN := Lib.hid hrun
      have HI2 := Lib.hid hA5
      clear hrun hA5 hR3 hb3 H2 hI hS3 hsnoc hlb
      go_wp2_with (at_builtin; refine wpList_app rfl _ _ 42 rfl _ _ _ _ rfl rfl HRUN.out ?_; clear HRUN)
      go_roundw
      case rel => exact ⟨k + 1, by omega, by go_num, HI2⟩
      case measure => simp [intOf]; omega
    · obtain rfl : n = k := by omega
      have hd : decide ((n : Int) < (n : Int)) = false := by simp
      have hA := hI.out
      rw [List.take_of_length_le (by rw [HN.out]; exact Nat.le_refl _)] at hA
      have HF := Lib.hid hA
      clear hA hI
      go_wp2_with fail
      go_ret
      exact ⟨_, rfl, HF.out⟩

end Go.Proofs.Ytdohfkblmadejaa
