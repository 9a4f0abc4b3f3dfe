/- token: comments. -/
import Derived.Test.YtdnmdccjecoojaaDoorM
namespace Go.Proofs.YtdnmdccjecoojaaDoor
open Go.RowKit Tok
theorem drop_len {s : List UInt8} {n k : Nat} (hn : s.length = n) : (s.drop k).length = n - k := by rw [List.length_drop, hn]
theorem drop_ne {s : List UInt8} {n k : Nat} (hn : s.length = n) (hk : k < n) : s.drop k ≠ [] := fun e => by
  have := congrArg List.length e
  rw [drop_len hn] at this
  simp at this
  omega
/-- What a loop over a comment knows at its place. -/
structure ComI (s : List UInt8) (n d k : Nat) : Prop where
  or : d = 0 ∧ k = 0 ∨ 1 ≤ d
  le : d ≤ k
  is : comS s 0 = (comS (s.drop k) d).map (k + ·)
theorem ComI.open_ {s : List UInt8} {n d k : Nat} (h : ComI s n d k) (hp : (s.drop k).take 2 = [40, 42]) : ComI s n (d + 1) (k + 2) :=
  ⟨.inr (by omega), by have := h.le; omega, by rw [h.is, comS_open d hp, List.drop_drop, Option.map_map]; congr 1; funext x; show k + (2 + x) = k + 2 + x; omega⟩
theorem ComI.close {s : List UInt8} {n d e k : Nat} (h : ComI s n d k) (he : d = e + 1) (h0 : 1 ≤ e) (hp : (s.drop k).take 2 = [42, 41]) : ComI s n e (k + 2) := by
  subst he
  refine ⟨.inr h0, by have := h.le; omega, ?_⟩
  rw [h.is, comS_close hp (by omega), List.drop_drop, Option.map_map, Nat.add_sub_cancel]; congr 1; funext x; show k + (2 + x) = k + 2 + x; omega
theorem ComI.end_ {s : List UInt8} {n d k : Nat} (h : ComI s n d k) (he : d = 1) (hp : (s.drop k).take 2 = [42, 41]) : comS s 0 = some (k + 2) := by
  subst he
  rw [h.is, comS_end hp]; rfl
theorem ComI.else_ {s : List UInt8} {n d k : Nat} (hn : s.length = n) (hk : k < n) (h : ComI s n d k) (hd : 1 ≤ d) (hp : (s.drop k).take 2 ≠ [40, 42]) (hq : (s.drop k).take 2 ≠ [42, 41]) : ComI s n d (k + 1) :=
  ⟨.inr hd, by have := h.le; omega, by rw [h.is, comS_else d (drop_ne hn hk) hp hq, List.drop_drop, Option.map_map]; congr 1; funext x; show k + (1 + x) = k + 1 + x; omega⟩
theorem ComI.none_ {s : List UInt8} {n d : Nat} (hn : s.length = n) (h : ComI s n d n) : comS s 0 = none := by
  rw [h.is, List.drop_eq_nil_of_le (by omega), comS_nil]; rfl
theorem ComI.two {s : List UInt8} {n k : Nat} {a b : UInt8} (hn : s.length = n) (hp : (s.drop k).take 2 = [a, b]) : k + 2 ≤ n := by
  have := (take2_ne hp).2
  rw [drop_len hn] at this
  omega
theorem ComI.first (s : List UInt8) (n : Nat) : ComI s n 0 0 := ⟨.inl ⟨rfl, rfl⟩, Nat.le_refl _, by rw [List.drop_zero]; cases comS s 0 <;> simp⟩
set_option maxHeartbeats 1000000 in
theorem comment_any (s : List UInt8) (w : World) (hb : s.length < 4294967296) (h2 : s.take 2 = [40, 42]) :
    Calls Tryd.prog 31 #[.string (str s)] w fun e w' => e = .returned (.int .i64 (((comS s 0).getD 0 : Nat) : Int)) ∧ w = w' := by
  have hsz := str_size s
  obtain ⟨n, hn⟩ : ∃ n, s.length = n := ⟨_, rfl⟩
  rw [hn] at hb hsz
  have HSX : Hid (∀ k, (str s).extract k n = str (s.drop k)) := Lib.hid (fun k => str_suf hn k)
  have HB1 : Hid (∀ r : List UInt8, Calls Tryd.prog 30 #[.string (str r), .string ⟨#[40, 42]⟩] w fun e w' => e = .returned (.bool (r.take 2 == [40, 42])) ∧ w = w') := Lib.hid (fun r => begins_any r [40, 42] w)
  have HB2 : Hid (∀ r : List UInt8, Calls Tryd.prog 30 #[.string (str r), .string ⟨#[42, 41]⟩] w fun e w' => e = .returned (.bool (r.take 2 == [42, 41])) ∧ w = w') := Lib.hid (fun r => begins_any r [42, 41] w)
  have HN := Lib.hid hn
  have H2 := Lib.hid h2
  have HF := Lib.hid (ComI.first s n)
  clear hn h2
  go_enter Tryd.func31, Tryd.ntmps31
  go_wp2_with fail
  go_loopw [3, 4] (fun dv kv wr => ∃ d k : Nat, k ≤ n ∧ dv = .int .i64 (d : Int) ∧ kv = .int .i64 (k : Int) ∧ wr = w ∧ Hid (ComI s n d k)) (fun _ kv _ => n - (intOf kv).toNat)
  case atStart => exact ⟨0, 0, Nat.zero_le _, rfl, rfl, rfl, HF⟩
  case round =>
    clear HF
    obtain ⟨d, k, hk, rfl, rfl, hw, hI⟩ := hrel
    obtain rfl : w = _ := hw.symm
    by_cases hlt : k < n
    · have hd : decide ((k : Int) < (n : Int)) = true := by simpa using hlt
      have hle := hI.out.le
      have hex := HSX.out k
      have H1 := HB1.out (s.drop k)
      have H3 := HB2.out (s.drop k)
      obtain ⟨p, hp⟩ : ∃ p, ((s.drop k).take 2 == [40, 42]) = p := ⟨_, rfl⟩
      obtain ⟨q, hq⟩ : ∃ q, ((s.drop k).take 2 == [42, 41]) = q := ⟨_, rfl⟩
      rw [hp] at H1
      rw [hq] at H3
      cases p with
      | true =>
        have hp := beq_iff_eq.1 hp
        have HI := Lib.hid (hI.out.open_ hp)
        have hk2 := ComI.two HN.out hp
        have H1 := Lib.hid H1
        clear hp hq hI H3
        go_wp2_with (go_at_call 30; refine Calls.mono H1.out ?_; rintro e w' ⟨rfl, rfl⟩)
        go_roundw
        case rel => exact ⟨d + 1, k + 2, hk2, by go_num, by go_num, by trivial, HI⟩
        case measure => simp [intOf]; omega
      | false =>
        have hd1 : 1 ≤ d := by
          rcases hI.out.or with ⟨_, e⟩ | h
          · subst e
            rw [List.drop_zero, H2.out] at hp
            exact absurd hp (by decide)
          · exact h
        cases q with
        | true =>
          have hq := beq_iff_eq.1 hq
          have hk2 := ComI.two HN.out hq
          by_cases h1 : d = 1
          · have HI := Lib.hid (hI.out.end_ h1 hq)
            subst h1
            have H1 := Lib.hid H1
            have H3 := Lib.hid H3
            clear hp hq hI
            go_wp2_with fail
            refine H1.out.mono ?_
            rintro e w' ⟨rfl, rfl⟩
            go_wp2_with fail
            refine H3.out.mono ?_
            rintro e w' ⟨rfl, rfl⟩
            go_wp2_with fail
            go_ret
            exact ⟨by rw [HI.out]; go_num, rfl⟩
          · obtain ⟨e, he⟩ : ∃ e, e = d - 1 := ⟨_, rfl⟩
            have HI := Lib.hid (hI.out.close (e := e) (by omega) (by omega) hq)
            have g1 : (d : Int) - 1 = (e : Int) := by omega
            have g2 : ((e : Int) == 0) = false := by simp; omega
            have g3 : IntKind.i64.wrap ((d : Int) - 1) = (e : Int) := by rw [g1]; exact IntWalk.i64_in _ (by omega)
            have H1 := Lib.hid H1
            have H3 := Lib.hid H3
            clear hp hq hI
            go_wp2_with fail
            refine H1.out.mono ?_
            rintro e w' ⟨rfl, rfl⟩
            go_wp2_with fail
            refine H3.out.mono ?_
            rintro e w' ⟨rfl, rfl⟩
            go_wp2_with fail
            go_roundw
            case rel => exact ⟨e, k + 2, hk2, by go_num, by go_num, by trivial, HI⟩
            case measure => simp [intOf]; omega
        | false =>
          have HI := Lib.hid (hI.out.else_ HN.out hlt hd1 (fun e => by rw [e] at hp; exact absurd hp (by decide)) (fun e => by rw [e] at hq; exact absurd hq (by decide)))
          have H1 := Lib.hid H1
          have H3 := Lib.hid H3
          clear hp hq hI
          go_wp2_with fail
          refine H1.out.mono ?_
          rintro e w' ⟨rfl, rfl⟩
          go_wp2_with fail
          refine H3.out.mono ?_
          rintro e w' ⟨rfl, rfl⟩
          go_wp2_with fail
          go_roundw
          case rel => exact ⟨d, k + 1, by omega, rfl, by go_num, by trivial, HI⟩
          case measure => simp [intOf]; omega
    · obtain rfl : n = k := by omega
      have hd : decide ((n : Int) < (n : Int)) = false := by simp
      have HI := Lib.hid (hI.out.none_ HN.out)
      clear hI
      go_wp2_with fail
      go_ret
      exact ⟨by rw [HI.out]; rfl, rfl⟩
end Go.Proofs.YtdnmdccjecoojaaDoor
