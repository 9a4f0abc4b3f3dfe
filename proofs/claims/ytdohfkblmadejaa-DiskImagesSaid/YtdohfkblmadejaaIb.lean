/- Load. -/
import Derived.Test.YtdohfkblmadejaaIa
import Derived.Deep.RegionHeld3
namespace Go.Proofs.Ytdohfkblmadejaa
open Go.RowKit Dsk

def loadD (rows : List (List UInt8)) : DS := ⟨rows, [], false, 0, 0⟩
/-- May an image be loaded? -/
def fitB (rows : List (List UInt8)) : Bool := rows.all fun b => b.length == 0 || b.length == 256
theorem fit_ok {rows : List (List UInt8)} (h : fitB rows = true) (h1 : 16 ≤ rows.length) (h2 : rows.length ≤ 4096) : (loadD rows).Ok :=
  ⟨h1, h2, fun b hb => by
    have := List.all_eq_true.1 h b hb
    simp at this
    rcases this with e | e
    · exact .inl e
    · exact .inr e, fun p hp => (by cases hp), by show (0 : Nat) < _; decide⟩
theorem fit_take {rows : List (List UInt8)} {k : Nat} {b : List UInt8} (h : fitB (rows.take k) = true) (hk : rows[k]? = some b) : fitB (rows.take (k + 1)) = (b.length == 0 || b.length == 256) := by
  obtain ⟨hk', e⟩ := List.getElem?_eq_some_iff.1 hk
  unfold fitB at *
  rw [List.take_succ_eq_append_getElem hk', e, List.all_append, h]
  simp
theorem fit_no {rows : List (List UInt8)} {k : Nat} (h : fitB (rows.take k) = false) : fitB rows = false := by
  rw [← List.take_append_drop k rows]
  unfold fitB at *
  rw [List.all_append, h]; rfl

theorem load_far (A : Option Addr) (n cap : Nat) (w : World) (hn : n < 16 ∨ 4096 < n) :
    Calls Try.prog 21 #[.slice A n cap] w fun e w' => e = .returned (.tuple #[.pointer none, .int .i64 1]) ∧ w = w' := by
  have hm := may_any n w
  have e : (decide (16 ≤ (n : Int)) && decide ((n : Int) ≤ 4096)) = false := by simp; omega
  rw [e] at hm
  have HM := Lib.hid hm
  clear hm e hn
  go_enter Try.func21, Try.ntmps21
  go_wp2_with fail
  refine HM.out.mono ?_
  rintro e w' ⟨rfl, rfl⟩
  go_wp2_with fail
  go_ret2
  exact ⟨rfl, rfl⟩

theorem CpB.loaded {w wr : World} {g gl gi n : Nat} {rows : List (List UInt8)} (h : CpB w wr g gl gi n (loadD rows)) (hn : rows.length = n) (hok : (loadD rows).Ok) : Disk wr (fun k => w.heap.size ≤ k ∧ k < wr.heap.size) g (loadD rows) :=
  (h.take (w9 := wr) hn (Lasts.made h.row) ⟨rfl, rfl, rfl, Nat.le_refl _, fun _ _ _ => rfl⟩ rfl).disk hok

set_option maxHeartbeats 1000000 in
theorem load_yes (A : Option Addr) (n cap : Nat) (rows : List (List UInt8)) (w : World) (hlen : rows.length = n) (hn : 16 ≤ n ∧ n ≤ 4096) (hA : Img w A rows) (hf : fitB rows = true) :
    Calls Try.prog 21 #[.slice A n cap] w fun e w' => ∃ g, e = .returned (.tuple #[.pointer (some ⟨g, 0, none⟩), .int .i64 0]) ∧ Disk w' (fun k => w.heap.size ≤ k ∧ k < w'.heap.size) g (loadD rows) ∧ Below w.heap.size w w' := by
  have hm := may_any n w
  have e : (decide (16 ≤ (n : Int)) && decide ((n : Int) ≤ 4096)) = true := by simp; omega
  rw [e] at hm
  have HM := Lib.hid hm
  have HOK := Lib.hid (fit_ok hf (by omega) (by omega))
  have hall : ∀ b ∈ rows, b.length = 0 ∨ b.length = 256 := fun b hb => by
    have := List.all_eq_true.1 hf b hb
    simpa using this
  have HCP : Hid (∀ W : World, Below w.heap.size w W → Calls Try.prog 44 #[.slice A n cap] W fun e w' => e = .returned (.slice (some ⟨W.heap.size, 0, none⟩) n n) ∧ Secs w' (fun j => W.heap.size < j ∧ j < w'.heap.size) W.heap.size rows ∧ Below W.heap.size W w') :=
    Lib.hid fun W hW => copied_any A n cap rows W hlen hn.2 (hA.below hW) (fun b hb => by rcases hall b hb with e | e <;> omega)
  have HALL := Lib.hid hall
  have HL := Lib.hid hlen
  have HA := Lib.hid hA
  have hmk := run_mkI n hn.2
  have HMK := Lib.hid hmk
  have hn4 : n ≤ 4096 := hn.2
  clear hm e hn hlen hA hf hall hmk
  go_enter Try.func21, Try.ntmps21
  go_wp2_with fail
  refine HM.out.mono ?_
  rintro e w' ⟨rfl, rfl⟩
  go_wp2_with fail
  go_loopw [5, 12] (fun b i wr => wr = w ∧ ∃ k : Nat, k ≤ n ∧ i = .int .i64 (k : Int)) (fun _ i _ => n - (intOf i).toNat)
  case atStart => exact ⟨rfl, 0, Nat.zero_le _, rfl⟩
  case round =>
    obtain ⟨rfl, k, hk, rfl⟩ := hrel
    by_cases hlt : k < n
    · have hd : decide ((k : Int) < (n : Int)) = true := by simpa using hlt
      obtain ⟨bs, hbs⟩ : ∃ bs, rows[k]? = some bs := ⟨_, List.getElem?_eq_getElem (by rw [HL.out]; exact hlt)⟩
      obtain ⟨b, off, v, rfl, hblt, hc, A2, c2, rfl, hl2, hm2, hby, _⟩ := HA.out k bs hbs
      have hz := HALL.out bs (List.mem_of_getElem? hbs)
      obtain ⟨L, hL⟩ : ∃ L, bs.length = L := ⟨_, rfl⟩
      rw [hL] at hc hz
      clear hL hby hbs hl2 hm2
      rcases hz with rfl | rfl
      · go_wp2_with fail
        go_roundw
        case rel => exact ⟨trivial, k + 1, by omega, by go_num⟩
        case measure => simp [intOf]; omega
      · go_wp2_with fail
        go_roundw
        case rel => exact ⟨trivial, k + 1, by omega, by go_num⟩
        case measure => simp [intOf]; omega
    · obtain rfl : n = k := by omega
      have hd : decide ((n : Int) < (n : Int)) = false := by simp
      have hmk := HMK.out
      go_wp2_with fail
      go_region_held3 (fun _ => True) (trivial)
        (first
          | (go_at_call 44; refine Calls.mono (HCP.out _ (Below.refl _ wr).drew) ?_; rintro e w8 ⟨rfl, hS8, hb8⟩)
          | (go_at_call 44; refine Calls.mono (HCP.out _ ((Below.refl _ wr).alloc (Nat.le_refl _) _).drew) ?_; rintro e w8 ⟨rfl, hS8, hb8⟩))
      · have HCB : Hid (CpB wr _ _ _ _ n (loadD rows)) := Lib.hid (CpB.one (n := n) (D := loadD rows) (Below.refl _ wr).drew hS8 hb8)
        have HD := Lib.hid (HCB.out.loaded HL.out HOK.out)
        have HB := Lib.hid HCB.out.bel
        clear hS8 hb8
        go_wp2_with fail
        go_ret2
        exact ⟨_, rfl, HD.out, HB.out⟩
      · have HCB : Hid (CpB wr _ _ _ _ n (loadD rows)) := Lib.hid (CpB.two (n := n) (D := loadD rows) (Below.refl _ wr) (show Secs w8 _ _ rows from by simpa using hS8) (by simpa using hb8))
        have HD := Lib.hid (HCB.out.loaded HL.out HOK.out)
        have HB := Lib.hid HCB.out.bel
        clear hS8 hb8
        go_wp2_with fail
        go_ret2
        exact ⟨_, rfl, HD.out, HB.out⟩

set_option maxHeartbeats 1000000 in
theorem load_no (A : Option Addr) (n cap : Nat) (rows : List (List UInt8)) (w : World) (hlen : rows.length = n) (hn : 16 ≤ n ∧ n ≤ 4096) (hA : Img w A rows) (hf : fitB rows = false) :
    Calls Try.prog 21 #[.slice A n cap] w fun e w' => e = .returned (.tuple #[.pointer none, .int .i64 1]) ∧ w = w' := by
  have hm := may_any n w
  have e : (decide (16 ≤ (n : Int)) && decide ((n : Int) ≤ 4096)) = true := by simp; omega
  rw [e] at hm
  have HM := Lib.hid hm
  have HF := Lib.hid hf
  have HL := Lib.hid hlen
  have HA := Lib.hid hA
  have hn4 : n ≤ 4096 := hn.2
  clear hm e hn hlen hA hf
  go_enter Try.func21, Try.ntmps21
  go_wp2_with fail
  refine HM.out.mono ?_
  rintro e w' ⟨rfl, rfl⟩
  go_wp2_with fail
  go_loopw [5, 12] (fun b i wr => wr = w ∧ ∃ k : Nat, k ≤ n ∧ i = .int .i64 (k : Int) ∧ Hid (fitB (rows.take k) = true)) (fun _ i _ => n - (intOf i).toNat)
  case atStart => exact ⟨rfl, 0, Nat.zero_le _, rfl, Lib.hid rfl⟩
  case round =>
    obtain ⟨rfl, k, hk, rfl, hF⟩ := hrel
    by_cases hlt : k < n
    · have hd : decide ((k : Int) < (n : Int)) = true := by simpa using hlt
      obtain ⟨bs, hbs⟩ : ∃ bs, rows[k]? = some bs := ⟨_, List.getElem?_eq_getElem (by rw [HL.out]; exact hlt)⟩
      obtain ⟨b, off, v, rfl, hblt, hc, A2, c2, rfl, hl2, hm2, hby, _⟩ := HA.out k bs hbs
      have HN := Lib.hid (fit_take hF.out hbs)
      obtain ⟨L, hL⟩ : ∃ L, bs.length = L := ⟨_, rfl⟩
      rw [hL] at hc HN
      clear hL hby hbs hl2 hm2 hF
      by_cases h0 : L = 0
      · subst h0
        have HN2 : Hid (fitB (rows.take (k + 1)) = true) := Lib.hid (HN.out.trans rfl)
        clear HN
        go_wp2_with fail
        go_roundw
        case rel => exact ⟨trivial, k + 1, by omega, by go_num, HN2⟩
        case measure => simp [intOf]; omega
      · by_cases h6 : L = 256
        · subst h6
          have HN2 : Hid (fitB (rows.take (k + 1)) = true) := Lib.hid (HN.out.trans rfl)
          clear HN
          go_wp2_with fail
          go_roundw
          case rel => exact ⟨trivial, k + 1, by omega, by go_num, HN2⟩
          case measure => simp [intOf]; omega
        · have d0 : ((L : Int) != 0) = true := by simp; omega
          have d6 : ((L : Int) != 256) = true := by simp; omega
          clear HN h0 h6
          go_wp2_with fail
          go_ret2
          exact ⟨rfl, rfl⟩
    · obtain rfl : n = k := by omega
      have h := hF.out
      rw [List.take_of_length_le (by rw [HL.out]; exact Nat.le_refl _), HF.out] at h
      cases h

end Go.Proofs.Ytdohfkblmadejaa
