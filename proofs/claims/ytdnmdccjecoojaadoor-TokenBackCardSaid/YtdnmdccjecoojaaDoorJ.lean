/- token: tokens as values; name, tick. -/
import Derived.Test.YtdnmdccjecoojaaDoorI
import Derived.Laws.Rows
namespace Go.Proofs.YtdnmdccjecoojaaDoor
open Go.RowKit Tok
theorem results_cell_row2 {P : Program} {fn : Func} {p u : Tmp} {ty : TypeId} (h : fn.results = #[.cell p ty, .tmp u]) (tmps : Array Value) (w : World) (g : Nat) (t : TypeId) (cs : Array Value) (fr : Nat × Nat) (d : TypeDesc)
    (hp : tmps.getD p undef = .pointer (some ⟨g, 0, none⟩)) (hg : w.heap[g]? = some (.cells cs t fr))
    (hu : P.underlying ty = some d) (hd : (match d with | .struct _ | .array _ _ => true | _ => false) = true) (hi : (P.info? ty).map (·.size) = some cs.size) :
    (results fn tmps).run P w = .ok (.tuple #[.agg cs, tmps.getD u undef]) w := by
  have hp' : tmps[p]?.getD undef = .pointer (some ⟨g, 0, none⟩) := by simpa using hp
  simp [results, h, hp', asAddr, run_loadVar_row w g t ty cs fr d hg hu hd hi, Result.andThen]
def tkC (t : Tk) (i : Int) : Array Value := #[bv t.k, .string (str t.t), .int .i64 (t.n : Int), .int .i64 i]
def tkV (t : Tk) (i : Int) : Value := .agg (tkC t i)
def noTk : Tk := ⟨0, [], 0⟩
theorem infoTk : (Tryd.prog.info? 34).map (·.size) = some 4 := by kernel_rfl
/-- What is told of a text's first token. -/
def OneP (o : Option (Tk × Nat)) (w : World) : Ending → World → Prop := fun e w' => Below w.heap.size w w' ∧ ∃ t n, e = .returned (.tuple #[tkV t 0, .int .i64 ((n : Nat) : Int)]) ∧ ((o = none ∧ n = 0) ∨ o = some (t, n))
theorem Blk.put4 {w : World} {g : Nat} {a0 b0 c0 d0 a b c d : Value} (h : Blk w g 34 #[a0, b0, c0, d0]) : Blk ((((w.setCell ⟨g, 0, none⟩ a).setCell ⟨g, 1, none⟩ b).setCell ⟨g, 2, none⟩ c).setCell ⟨g, 3, none⟩ d) g 34 #[a, b, c, d] :=
  (((h.set_ 0 a).set_ 1 b).set_ 2 c).set_ 3 d
theorem below_put4 {B g : Nat} {w w' : World} {a b c d : Value} (h : Below B w w') (hg : B ≤ g) : Below B w ((((w'.setCell ⟨g, 0, none⟩ a).setCell ⟨g, 1, none⟩ b).setCell ⟨g, 2, none⟩ c).setCell ⟨g, 3, none⟩ d) :=
  (((h.setCell (p := ⟨g, 0, none⟩) hg _).setCell (p := ⟨g, 1, none⟩) hg _).setCell (p := ⟨g, 2, none⟩) hg _).setCell (p := ⟨g, 3, none⟩) hg _
/-- What the walk is told of a token's own cell. -/
theorem Blk.told4 {w : World} {g : Nat} {a b c d : Value} (h : Blk w g 34 #[a, b, c, d]) : w.cell? ⟨g, 0, none⟩ = some a ∧ w.cell? ⟨g, 1, none⟩ = some b ∧ w.cell? ⟨g, 2, none⟩ = some c ∧ w.cell? ⟨g, 3, none⟩ = some d ∧ (∀ i, w.frozen? ⟨g, i, none⟩ = false) :=
  ⟨h.cell 0, h.cell 1, h.cell 2, h.cell 3, h.frozen⟩
def nameX (x : List UInt8) : Option (Tk × Nat) := if 32 < x.length then none else some (⟨if greatB (x.headD 0) then 2 else if x ∈ wordsL then 6 else 1, x, 0⟩, x.length)
set_option maxHeartbeats 1000000 in
theorem name_any (x : List UInt8) (c : UInt8) (w : World) (hx : x[0]? = some c) (hb : x.length < 4294967296) (hT : Tabs w) :
    Calls Tryd.prog 34 #[.string (str x)] w (OneP (nameX x) w) := by
  obtain ⟨n, hn⟩ : ∃ n, x.length = n := ⟨_, rfl⟩
  have h0 : 0 < n := by have := (List.getElem?_eq_some_iff.1 hx).1; omega
  have hsz := str_sizeN hn
  have hcc := str_at0 hx (by rw [hsz]; exact h0)
  have hhd : x.headD 0 = c := by cases x with | nil => simp at hx | cons a r => simpa using hx
  rw [hn] at hb
  obtain ⟨w0, hw0⟩ : ∃ w0, w.alloc (.cells #[.int .u8 0, .string ⟨#[]⟩, .int .i64 0, .int .i64 0] 34) = w0 := ⟨_, rfl⟩
  have hR0 : Blk w0 w.heap.size 34 #[.int .u8 0, .string ⟨#[]⟩, .int .i64 0, .int .i64 0] := by rw [← hw0]; exact Blk.new _ _ _
  have hb0 : Below w.heap.size w w0 := by rw [← hw0]; exact (Below.refl _ _).alloc (Nat.le_refl _) _
  have H1 := great_any c w0
  have H2 := word_any x w0 (hT.below hb0)
  have H3 := clone_any x w0 (by rw [hn]; exact hb)
  have hX : nameX x = if 32 < n then none else some (⟨if greatB c then 2 else if x ∈ wordsL then 6 else 1, x, 0⟩, n) := by unfold nameX; rw [hn, hhd]
  have HX := Lib.hid hX
  have HR0 := Lib.hid hR0
  have HB0 := Lib.hid hb0
  obtain ⟨r0, r1, r2, r3, f0⟩ := hR0.told4
  unfold bv at H1
  clear hX hT hR0 hb0 hx hn hhd
  by_cases hbig : 32 < n
  · have hd : decide ((n : Int) > 32) = true := by simp; omega
    have HX2 : Hid (nameX x = none) := Lib.hid (by rw [HX.out, if_pos hbig])
    clear HX hbig H1 H2 H3
    go_enter Tryd.func34, Tryd.ntmps34
    go_wp2_with fail
    refine bodyPost_ret (results_cell_row2 rfl _ _ w.heap.size 34 _ (0, 0) _ rfl HR0.out.put4 Tryd.underlying34 rfl infoTk) rfl ?_
    exact ⟨below_put4 HB0.out (Nat.le_refl _), noTk, 0, rfl, .inl ⟨HX2.out, rfl⟩⟩
  · have hd : decide ((n : Int) > 32) = false := by simp; omega
    obtain ⟨p, hp⟩ : ∃ p, greatB c = p := ⟨_, rfl⟩
    obtain ⟨q, hq⟩ : ∃ q, decide (x ∈ wordsL) = q := ⟨_, rfl⟩
    have HX2 : Hid (nameX x = some (⟨if p then 2 else if q then 6 else 1, x, 0⟩, n)) := Lib.hid (by
      rw [HX.out, if_neg hbig, hp]
      cases q with
      | true => rw [if_pos (of_decide_eq_true hq)]; rfl
      | false => rw [if_neg (of_decide_eq_false hq)]; rfl)
    rw [hp] at H1
    rw [hq] at H2
    have H1 := Lib.hid H1
    have H2 := Lib.hid H2
    have H3 := Lib.hid H3
    clear HX hbig hp hq
    go_enter Tryd.func34, Tryd.ntmps34
    cases p <;> cases q
    all_goals
      go_wp2_with (first
        | (go_at_call 33; refine Calls.mono H1.out ?_; rintro e w' ⟨rfl, rfl⟩)
        | (go_at_call 15; refine Calls.mono H2.out ?_; rintro e w' ⟨rfl, rfl⟩)
        | (go_at_call 51; refine Calls.mono H3.out ?_; rintro e w1 ⟨rfl, hb1⟩; have HR1 := Lib.hid (HR0.out.below hb1 HR0.out.lt); obtain ⟨g0, g1, g2, g3, fg⟩ := HR1.out.told4; have HB1 := Lib.hid (HB0.out.trans (hb1.mono HB0.out.size)); clear hb1))
      refine bodyPost_ret (results_cell_row2 rfl _ _ w.heap.size 34 _ (0, 0) _ rfl HR1.out.put4 Tryd.underlying34 rfl infoTk) rfl ?_
      exact ⟨below_put4 HB1.out (Nat.le_refl _), ⟨_, x, 0⟩, n, rfl, .inr HX2.out⟩
def tickX (x : List UInt8) : Option (Tk × Nat) := if x.length < 2 ∨ 33 < x.length ∨ smallB (x.getD 1 0) = false then none else some (⟨3, x, 0⟩, x.length)
set_option maxHeartbeats 1000000 in
theorem tick_any (x : List UInt8) (w : World) (hb : x.length < 4294967296) :
    Calls Tryd.prog 36 #[.string (str x)] w (OneP (tickX x) w) := by
  obtain ⟨n, hn⟩ : ∃ n, x.length = n := ⟨_, rfl⟩
  have hsz := str_sizeN hn
  have hX : tickX x = if n < 2 ∨ 33 < n ∨ smallB (x.getD 1 0) = false then none else some (⟨3, x, 0⟩, n) := by unfold tickX; rw [hn]
  rw [hn] at hb
  obtain ⟨w0, hw0⟩ : ∃ w0, w.alloc (.cells #[.int .u8 0, .string ⟨#[]⟩, .int .i64 0, .int .i64 0] 34) = w0 := ⟨_, rfl⟩
  have hR0 : Blk w0 w.heap.size 34 #[.int .u8 0, .string ⟨#[]⟩, .int .i64 0, .int .i64 0] := by rw [← hw0]; exact Blk.new _ _ _
  have hb0 : Below w.heap.size w w0 := by rw [← hw0]; exact (Below.refl _ _).alloc (Nat.le_refl _) _
  have HX := Lib.hid hX
  have HR0 := Lib.hid hR0
  have HB0 := Lib.hid hb0
  obtain ⟨r0, r1, r2, r3, f0⟩ := hR0.told4
  clear hX hR0 hb0
  by_cases h2 : n < 2
  · have hd : decide ((n : Int) < 2) = true := by simp; omega
    have HX2 : Hid (tickX x = none) := Lib.hid (by rw [HX.out, if_pos (.inl h2)])
    clear HX hn
    go_enter Tryd.func36, Tryd.ntmps36
    go_wp2_with fail
    refine bodyPost_ret (results_cell_row2 rfl _ _ w.heap.size 34 _ (0, 0) _ rfl HR0.out.put4 Tryd.underlying34 rfl infoTk) rfl ?_
    exact ⟨below_put4 HB0.out (Nat.le_refl _), noTk, 0, rfl, .inl ⟨HX2.out, rfl⟩⟩
  · have hd : decide ((n : Int) < 2) = false := by simp; omega
    by_cases h33 : 33 < n
    · have hd2 : decide ((n : Int) > 33) = true := by simp; omega
      have HX2 : Hid (tickX x = none) := Lib.hid (by rw [HX.out, if_pos (.inr (.inl h33))])
      clear HX hn
      go_enter Tryd.func36, Tryd.ntmps36
      go_wp2_with fail
      refine bodyPost_ret (results_cell_row2 rfl _ _ w.heap.size 34 _ (0, 0) _ rfl HR0.out.put4 Tryd.underlying34 rfl infoTk) rfl ?_
      exact ⟨below_put4 HB0.out (Nat.le_refl _), noTk, 0, rfl, .inl ⟨HX2.out, rfl⟩⟩
    · have hd2 : decide ((n : Int) > 33) = false := by simp; omega
      obtain ⟨c, hc⟩ : ∃ c, x[1]? = some c := ⟨_, List.getElem?_eq_getElem (by omega)⟩
      have h1n : 1 < (str x).size := by rw [hsz]; omega
      have hcc := str_at hc h1n
      have hg : x.getD 1 0 = c := by rw [List.getD_eq_getElem?_getD, hc]; rfl
      have H1 := small_any c w0
      have H3 := clone_any x w0 (by rw [hn]; exact hb)
      obtain ⟨p, hp⟩ : ∃ p, smallB c = p := ⟨_, rfl⟩
      have HX2 : Hid (tickX x = if p = false then none else some (⟨3, x, 0⟩, n)) := Lib.hid (by
        rw [HX.out, hg, hp]
        cases p with
        | true => rw [if_neg (by simp; omega), if_neg (by decide)]
        | false => rw [if_pos (.inr (.inr rfl)), if_pos rfl])
      rw [hp] at H1
      unfold bv at H1
      have H1 := Lib.hid H1
      have H3 := Lib.hid H3
      clear HX hn hp hg hc
      go_enter Tryd.func36, Tryd.ntmps36
      cases p with
      | false =>
        go_wp2_with (go_at_call 32; refine Calls.mono H1.out ?_; rintro e w' ⟨rfl, rfl⟩)
        refine bodyPost_ret (results_cell_row2 rfl _ _ w.heap.size 34 _ (0, 0) _ rfl HR0.out.put4 Tryd.underlying34 rfl infoTk) rfl ?_
        exact ⟨below_put4 HB0.out (Nat.le_refl _), noTk, 0, rfl, .inl ⟨by rw [HX2.out]; simp, rfl⟩⟩
      | true =>
        go_wp2_with (first
          | (go_at_call 32; refine Calls.mono H1.out ?_; rintro e w' ⟨rfl, rfl⟩)
          | (go_at_call 51; refine Calls.mono H3.out ?_; rintro e w1 ⟨rfl, hb1⟩; have HR1 := Lib.hid (HR0.out.below hb1 HR0.out.lt); obtain ⟨g0, g1, g2, g3, fg⟩ := HR1.out.told4; have HB1 := Lib.hid (HB0.out.trans (hb1.mono HB0.out.size)); clear hb1))
        refine bodyPost_ret (results_cell_row2 rfl _ _ w.heap.size 34 _ (0, 0) _ rfl HR1.out.put4 Tryd.underlying34 rfl infoTk) rfl ?_
        exact ⟨below_put4 HB1.out (Nat.le_refl _), ⟨3, x, 0⟩, n, rfl, .inr (by rw [HX2.out]; simp)⟩
end Go.Proofs.YtdnmdccjecoojaaDoor
