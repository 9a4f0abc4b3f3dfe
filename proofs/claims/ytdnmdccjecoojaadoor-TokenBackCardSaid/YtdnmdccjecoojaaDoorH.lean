/- token: the reference's blank. -/
import Derived.Test.YtdnmdccjecoojaaDoorG
namespace Go.Proofs.YtdnmdccjecoojaaDoor
open Go.RowKit Tok
def blankI (s : List UInt8) : Int := match blankN s with | some m => (m : Int) | none => -1
theorem com_start {s : List UInt8} {n : Nat} (hp : s.take 2 = [40, 42]) : ComI s n 1 2 := by
  have := (ComI.first s n).open_ (by rw [List.drop_zero]; exact hp)
  exact this
set_option maxHeartbeats 1000000 in
theorem rblank_any (s : List UInt8) (c : UInt8) (w : World) (hb : s.length < 4294967296) (hc : s[0]? = some c) :
    Calls Tryd.prog 24 #[.string (str s)] w fun e w' => e = .returned (.int .i64 (blankI s)) ∧ w = w' := by
  have hbl := blankN_at (k := 0) hc
  rw [List.drop_zero] at hbl
  obtain ⟨n, hn⟩ : ∃ n, s.length = n := ⟨_, rfl⟩
  have h0 : 0 < n := by have := (List.getElem?_eq_some_iff.1 hc).1; omega
  have hsz := str_sizeN hn
  have hcc := str_at0 hc (by rw [hsz]; exact h0)
  rw [hn] at hb
  have HSX : Hid (∀ k, (str s).extract k n = str (s.drop k)) := Lib.hid (fun k => str_suf hn k)
  have HB1 : Hid (∀ r : List UInt8, Calls Tryd.prog 41 #[.string (str r), .string ⟨#[40, 42]⟩] w fun e w' => e = .returned (.bool (r.take 2 == [40, 42])) ∧ w = w') := Lib.hid (fun r => rbegins_any r [40, 42] w)
  have HB2 : Hid (∀ r : List UInt8, Calls Tryd.prog 41 #[.string (str r), .string ⟨#[42, 41]⟩] w fun e w' => e = .returned (.bool (r.take 2 == [42, 41])) ∧ w = w') := Lib.hid (fun r => rbegins_any r [42, 41] w)
  have hbb : blankB c = (decide (c.toNat = 9) || decide (c.toNat = 10) || decide (c.toNat = 13) || decide (c.toNat = 32)) := rfl
  have e1 : ((c.toNat : Int) == 9) = decide (c.toNat = 9) := by rw [Bool.eq_iff_iff]; simp; omega
  have e2 : ((c.toNat : Int) == 10) = decide (c.toNat = 10) := by rw [Bool.eq_iff_iff]; simp; omega
  have e3 : ((c.toNat : Int) == 13) = decide (c.toNat = 13) := by rw [Bool.eq_iff_iff]; simp; omega
  have e4 : ((c.toNat : Int) == 32) = decide (c.toNat = 32) := by rw [Bool.eq_iff_iff]; simp; omega
  obtain ⟨p1, hp1⟩ : ∃ p, decide (c.toNat = 9) = p := ⟨_, rfl⟩
  obtain ⟨p2, hp2⟩ : ∃ p, decide (c.toNat = 10) = p := ⟨_, rfl⟩
  obtain ⟨p3, hp3⟩ : ∃ p, decide (c.toNat = 13) = p := ⟨_, rfl⟩
  obtain ⟨p4, hp4⟩ : ∃ p, decide (c.toNat = 32) = p := ⟨_, rfl⟩
  rw [hp1] at e1 hbb
  rw [hp2] at e2 hbb
  rw [hp3] at e3 hbb
  rw [hp4] at e4 hbb
  have HN := Lib.hid hn
  clear hn hp1 hp2 hp3 hp4 hc
  cases hx : blankB c with
  | true =>
    rw [hx, if_pos rfl] at hbl
    rw [hx] at hbb
    have HR : Hid (blankI s = 1) := Lib.hid (by unfold blankI; rw [hbl]; rfl)
    have HBB := Lib.hid hbb
    clear hbl hx hbb HSX HB1 HB2
    go_enter Tryd.func24, Tryd.ntmps24
    cases p1 <;> cases p2 <;> cases p3 <;> cases p4
    all_goals first
      | (exact absurd HBB.out (by decide))
      | (clear HBB
         go_wp2_with fail
         go_ret
         exact ⟨by rw [HR.out]; rfl, rfl⟩)
  | false =>
    rw [hx, if_neg (by decide)] at hbl
    rw [hx] at hbb
    obtain ⟨rfl, rfl, rfl, rfl⟩ : p1 = false ∧ p2 = false ∧ p3 = false ∧ p4 = false := by
      cases p1 <;> cases p2 <;> cases p3 <;> cases p4 <;> first | exact ⟨rfl, rfl, rfl, rfl⟩ | exact absurd hbb (by decide)
    have H1 := HB1.out s
    obtain ⟨p, hp⟩ : ∃ p, (s.take 2 == [40, 42]) = p := ⟨_, rfl⟩
    rw [hp] at H1
    cases p with
    | false =>
      rw [if_neg (fun e => by rw [e] at hp; exact absurd hp (by decide))] at hbl
      have HR : Hid (blankI s = 0) := Lib.hid (by unfold blankI; rw [hbl]; rfl)
      have H1 := Lib.hid H1
      clear hbl hx hbb HSX HB1 HB2 hp
      go_enter Tryd.func24, Tryd.ntmps24
      go_wp2_with (go_at_call 41; refine Calls.mono H1.out ?_; rintro e w' ⟨rfl, rfl⟩)
      go_ret
      exact ⟨by rw [HR.out]; rfl, rfl⟩
    | true =>
      have hp := beq_iff_eq.1 hp
      rw [if_pos hp] at hbl
      have HR : Hid (blankI s = match comS s 0 with | some m => (m : Int) | none => -1) := Lib.hid (by unfold blankI; rw [hbl])
      have H1 := Lib.hid H1
      have h2n := ComI.two (k := 0) HN.out (by rw [List.drop_zero]; exact hp)
      have HF : Hid ((1 ≤ 1 ∧ ComI s n 1 2) ∨ (1 = 0 ∧ comS s 0 = some 2)) := Lib.hid (.inl ⟨Nat.le_refl _, com_start hp⟩)
      clear hbl hx hbb hp
      go_enter Tryd.func24, Tryd.ntmps24
      go_wp2_with (go_at_call 41; refine Calls.mono H1.out ?_; rintro e w' ⟨rfl, rfl⟩)
      clear H1
      go_loopw [3, 4] (fun dv kv wr => ∃ d k : Nat, k ≤ n ∧ d ≤ n ∧ dv = .int .i64 (d : Int) ∧ kv = .int .i64 (k : Int) ∧ wr = w ∧ Hid ((1 ≤ d ∧ ComI s n d k) ∨ (d = 0 ∧ comS s 0 = some k))) (fun _ kv _ => n - (intOf kv).toNat)
      case atStart => exact ⟨1, 2, by omega, by omega, rfl, rfl, rfl, HF⟩
      case round =>
        clear HF
        obtain ⟨d, k, hk, hdn, rfl, rfl, hw, hI⟩ := hrel
        obtain rfl : w = _ := hw.symm
        rcases hI.out with ⟨hd1, hC⟩ | ⟨hd1, hE⟩
        · by_cases hlt : k < n
          · have hd : decide ((k : Int) < (n : Int)) = true := by simpa using hlt
            have hd2 : decide ((d : Int) > 0) = true := by simp; omega
            have hex := HSX.out k
            have H1 := HB1.out (s.drop k)
            have H3 := HB2.out (s.drop k)
            have hle := hC.le
            obtain ⟨p, hp⟩ : ∃ p, ((s.drop k).take 2 == [40, 42]) = p := ⟨_, rfl⟩
            obtain ⟨q, hq⟩ : ∃ q, ((s.drop k).take 2 == [42, 41]) = q := ⟨_, rfl⟩
            rw [hp] at H1
            rw [hq] at H3
            cases p with
            | true =>
              have hp := beq_iff_eq.1 hp
              have hk2 := ComI.two HN.out hp
              have HI : Hid ((1 ≤ d + 1 ∧ ComI s n (d + 1) (k + 2)) ∨ (d + 1 = 0 ∧ comS s 0 = some (k + 2))) := Lib.hid (.inl ⟨by omega, hC.open_ hp⟩)
              have H1 := Lib.hid H1
              clear hp hq hI H3 hC
              go_wp2_with (go_at_call 41; refine Calls.mono H1.out ?_; rintro e w' ⟨rfl, rfl⟩)
              go_roundw
              case rel => exact ⟨d + 1, k + 2, hk2, by omega, by go_num, by go_num, by trivial, HI⟩
              case measure => simp [intOf]; omega
            | false =>
              cases q with
              | true =>
                have hq := beq_iff_eq.1 hq
                have hk2 := ComI.two HN.out hq
                obtain ⟨e, he⟩ : ∃ e, e = d - 1 := ⟨_, rfl⟩
                have g1 : (d : Int) - 1 = (e : Int) := by omega
                have g3 : IntKind.i64.wrap ((d : Int) - 1) = (e : Int) := by rw [g1]; exact IntWalk.i64_in _ (by omega)
                have HI : Hid ((1 ≤ e ∧ ComI s n e (k + 2)) ∨ (e = 0 ∧ comS s 0 = some (k + 2))) := Lib.hid (by
                  by_cases h1 : d = 1
                  · exact .inr ⟨by omega, hC.end_ h1 hq⟩
                  · exact .inl ⟨by omega, hC.close (e := e) (by omega) (by omega) hq⟩)
                have H1 := Lib.hid H1
                have H3 := Lib.hid H3
                clear hp hq hI hC
                go_wp2_with fail
                refine H1.out.mono ?_
                rintro e w' ⟨rfl, rfl⟩
                go_wp2_with fail
                refine H3.out.mono ?_
                rintro e w' ⟨rfl, rfl⟩
                go_wp2_with fail
                go_roundw
                case rel => exact ⟨e, k + 2, hk2, by omega, by go_num, by go_num, by trivial, HI⟩
                case measure => simp [intOf]; omega
              | false =>
                have HI : Hid ((1 ≤ d ∧ ComI s n d (k + 1)) ∨ (d = 0 ∧ comS s 0 = some (k + 1))) := Lib.hid (.inl ⟨hd1, hC.else_ HN.out hlt hd1 (fun e => by rw [e] at hp; exact absurd hp (by decide)) (fun e => by rw [e] at hq; exact absurd hq (by decide))⟩)
                have H1 := Lib.hid H1
                have H3 := Lib.hid H3
                clear hp hq hI hC
                go_wp2_with fail
                refine H1.out.mono ?_
                rintro e w' ⟨rfl, rfl⟩
                go_wp2_with fail
                refine H3.out.mono ?_
                rintro e w' ⟨rfl, rfl⟩
                go_wp2_with fail
                go_roundw
                case rel => exact ⟨d, k + 1, by omega, hdn, rfl, by go_num, by trivial, HI⟩
                case measure => simp [intOf]; omega
          · obtain rfl : n = k := by omega
            have hd : decide ((n : Int) < (n : Int)) = false := by simp
            have hd2 : decide ((d : Int) > 0) = true := by simp; omega
            have HI := Lib.hid (hC.none_ HN.out)
            clear hI hC
            go_wp2_with fail
            go_ret
            exact ⟨by rw [HR.out, HI.out]; rfl, rfl⟩
        · subst hd1
          have HI := Lib.hid hE
          clear hI hE
          by_cases hlt : k < n
          · have hd : decide ((k : Int) < (n : Int)) = true := by simpa using hlt
            go_wp2_with fail
            go_ret
            exact ⟨by rw [HR.out, HI.out]; rfl, rfl⟩
          · have hd : decide ((k : Int) < (n : Int)) = false := by simpa using hlt
            go_wp2_with fail
            go_ret
            exact ⟨by rw [HR.out, HI.out]; rfl, rfl⟩
end Go.Proofs.YtdnmdccjecoojaaDoor
