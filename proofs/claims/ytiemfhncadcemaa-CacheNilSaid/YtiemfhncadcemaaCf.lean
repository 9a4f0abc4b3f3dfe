/- cache: Unpin, Drop. -/
import Derived.Test.YtiemfhncadcemaaCe
namespace Go.Proofs.Ytiemfhncadcemaa
open Go.RowKit Dsk

theorem atS_of {B : Nat → Nat} {L : List Fr} {x : Fr} (hx : x ∈ L) : atS B L (x.s : Int) = some (B x.s) := by
  unfold atS
  cases hh : L.find? (fun y => (y.s : Int) == (x.s : Int)) with
  | none =>
    rw [List.find?_eq_none] at hh
    exact absurd (by simp) (hh x hx)
  | some y =>
    have h1 := List.find?_some hh
    have h2 : (y.s : Int) = (x.s : Int) := by simpa using h1
    have h2 : y.s = x.s := by omega
    rw [Option.map_some, h2]
/-- What is told of a cache that is on, at a sector that a frame has. -/
theorem Cm.look_yes {w : World} {E : Nat → Prop} {g dg mb n most time : Nat} {B : Nat → Nat} {L : List Fr} (h : Cm w E g dg mb n B most time L) {x : Fr} (hx : x ∈ L) : (Instr.lookup 63 (.map (some mb)) (.int .i64 (x.s : Int)) false).run Try.prog w = .ok (.pointer (some ⟨B x.s, 0, none⟩)) w := by
  have := h.map.look (x.s : Int) (WalkArith.wf_i64 (by have := (h.secs x hx).2.1; omega))
  rw [atS_of hx] at this
  exact this
theorem Cm.look_no {w : World} {E : Nat → Prop} {g dg mb n most time : Nat} {B : Nat → Nat} {L : List Fr} (h : Cm w E g dg mb n B most time L) {i : Int} (hi : (Lit.int .i64 i).wf = true) (hx : atS B L i = none) : (Instr.lookup 63 (.map (some mb)) (.int .i64 i) false).run Try.prog w = .ok (.pointer none) w := by
  have := h.map.look i hi
  rw [hx] at this
  exact this
section
variable {w : World} {E F : Nat → Prop} {g dg mb n most time : Nat} {B : Nat → Nat} {L : List Fr} {D : DS}
theorem Cm.alive (h : Cm w E g dg mb n B most time L) (hD : Disk w F dg D) (hd : D.dead = false) : Calls Try.prog 32 #[.pointer (some ⟨g, 0, none⟩)] w fun e w' => e = .returned (.int .i64 0) ∧ w = w' := by
  have := crefuses_any g dg mb most time F D w h.head hD
  unfold refC at this
  rw [hd] at this
  exact this
theorem unpin_no (h : Cm w E g dg mb n B most time L) (hD : Disk w F dg D) (hd : D.dead = false) {i : Int} (hi : (Lit.int .i64 i).wf = true) (hx : atS B L i = none) :
    Calls Try.prog 23 #[.pointer (some ⟨g, 0, none⟩), .int .i64 i] w fun e w' => e = .returned (.int .i64 7) ∧ w = w' := by
  have H1 := Lib.hid (h.alive hD hd)
  have hl := h.look_no hi hx
  obtain ⟨c0, c1, c2, c3, _⟩ := h.head.told
  clear h hD hd hx hi
  go_enter Try.func23, Try.ntmps23
  go_wp2_with fail
  refine H1.out.mono ?_
  rintro e w' ⟨rfl, rfl⟩
  go_wp2_with fail
  go_ret
  exact ⟨rfl, rfl⟩
theorem unpin_zero (h : Cm w E g dg mb n B most time L) (hD : Disk w F dg D) (hd : D.dead = false) {x : Fr} (hx : x ∈ L) (hp : x.pins = 0) :
    Calls Try.prog 23 #[.pointer (some ⟨g, 0, none⟩), .int .i64 (x.s : Int)] w fun e w' => e = .returned (.int .i64 7) ∧ w = w' := by
  have H1 := Lib.hid (h.alive hD hd)
  have hl := h.look_yes hx
  obtain ⟨c0, c1, c2, c3, _⟩ := h.head.told
  obtain ⟨v, hf, _⟩ := h.frm x hx
  obtain ⟨f0, f1, f2, f3, _⟩ := hf.told
  rw [hp] at f2
  clear h hD hd hx hp hf
  go_enter Try.func23, Try.ntmps23
  go_wp2_with fail
  refine H1.out.mono ?_
  rintro e w' ⟨rfl, rfl⟩
  go_wp2_with fail
  go_ret
  exact ⟨rfl, rfl⟩
theorem drop_no (h : Cm w E g dg mb n B most time L) (hD : Disk w F dg D) (hd : D.dead = false) {i : Int} (hi : (Lit.int .i64 i).wf = true) (hx : atS B L i = none) :
    Calls Try.prog 22 #[.pointer (some ⟨g, 0, none⟩), .int .i64 i] w fun e w' => e = .returned (.int .i64 7) ∧ w = w' := by
  have H1 := Lib.hid (h.alive hD hd)
  have hl := h.look_no hi hx
  obtain ⟨c0, c1, c2, c3, _⟩ := h.head.told
  clear h hD hd hx hi
  go_enter Try.func22, Try.ntmps22
  go_wp2_with fail
  refine H1.out.mono ?_
  rintro e w' ⟨rfl, rfl⟩
  go_wp2_with fail
  go_ret
  exact ⟨rfl, rfl⟩
set_option maxRecDepth 20000 in
theorem drop_pinned (h : Cm w E g dg mb n B most time L) (hD : Disk w F dg D) (hd : D.dead = false) {x : Fr} (hx : x ∈ L) (hp : 0 < x.pins) :
    Calls Try.prog 22 #[.pointer (some ⟨g, 0, none⟩), .int .i64 (x.s : Int)] w fun e w' => e = .returned (.int .i64 3) ∧ w = w' := by
  have H1 := Lib.hid (h.alive hD hd)
  have hl := h.look_yes hx
  obtain ⟨c0, c1, c2, c3, _⟩ := h.head.told
  obtain ⟨v, hf, _⟩ := h.frm x hx
  obtain ⟨f0, f1, f2, f3, _⟩ := hf.told
  obtain ⟨pp, hpp⟩ : ∃ pp, x.pins = pp := ⟨_, rfl⟩
  rw [hpp] at f2 hp
  have hpd : decide ((pp : Int) > 0) = true := by simp; omega
  have hpd2 : decide (0 < pp) = true := by simpa using hp
  have hpi : (0 : Int) < (pp : Int) := by omega
  clear h hD hd hx hf hpp
  go_enter Try.func22, Try.ntmps22
  go_wp2_with fail
  refine H1.out.mono ?_
  rintro e w' ⟨rfl, rfl⟩
  go_wp2_with fail
  go_ret
  exact ⟨rfl, rfl⟩
set_option maxRecDepth 20000 in
theorem drop_yes (h : Cm w E g dg mb n B most time L) (hD : Disk w F dg D) (hd : D.dead = false) {x : Fr} (hx : x ∈ L) (hp : x.pins = 0) :
    Calls Try.prog 22 #[.pointer (some ⟨g, 0, none⟩), .int .i64 (x.s : Int)] w fun e w' => e = .returned (.int .i64 0) ∧ Cm w' E g dg mb n B most time (delL x.s L) ∧ Off (fun k => k = mb) w w' := by
  have H1 := Lib.hid (h.alive hD hd)
  have hl := h.look_yes hx
  obtain ⟨c0, c1, c2, c3, _⟩ := h.head.told
  obtain ⟨v, hf, _⟩ := h.frm x hx
  obtain ⟨f0, f1, f2, f3, _⟩ := hf.told
  rw [hp] at f2
  obtain ⟨w1, hdel, hm, ho⟩ := h.map.drop (x.s : Int) (WalkArith.wf_i64 (by have := (h.secs x hx).2.1; omega)) 0
  have HO := Lib.hid (And.intro (h.del x.s ⟨x, hx, rfl⟩ hm ho) ho)
  clear h hD hd hx hp hf hm ho
  go_enter Try.func22, Try.ntmps22
  go_wp2_with fail
  refine H1.out.mono ?_
  rintro e w' ⟨rfl, rfl⟩
  go_wp2_with fail
  go_ret
  exact ⟨rfl, HO.out⟩
end
end Go.Proofs.Ytiemfhncadcemaa
