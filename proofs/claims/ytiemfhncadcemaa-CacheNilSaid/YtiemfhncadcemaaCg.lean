/- cache: Unpin that goes. -/
import Derived.Test.YtiemfhncadcemaaCf
namespace Go.Proofs.Ytiemfhncadcemaa
open Go.RowKit Dsk
section
variable {w : World} {E F : Nat → Prop} {g dg mb n most time : Nat} {B : Nat → Nat} {L : List Fr} {D : DS}
set_option maxRecDepth 20000 in
theorem unpin_ok (h : Cm w E g dg mb n B most time L) (hD : Disk w F dg D) (hd : D.dead = false) {x : Fr} (hx : x ∈ L) {p : Nat} (hp : x.pins = p + 1) :
    Calls Try.prog 23 #[.pointer (some ⟨g, 0, none⟩), .int .i64 (x.s : Int)] w fun e w' => e = .returned (.int .i64 0) ∧ Cm w' (grow E w w') g dg mb n B most time (updL { x with pins := p } L) ∧ Off (fun k => k = B x.s) w w' := by
  have H1 := Lib.hid (h.alive hD hd)
  have hl := h.look_yes hx
  obtain ⟨c0, c1, c2, c3, _⟩ := h.head.told
  obtain ⟨v, hf, hv⟩ := h.frm x hx
  have hsec := h.secs x hx
  obtain ⟨f0, f1, f2, f3, ff⟩ := hf.told
  rw [hp] at f2 hsec
  obtain ⟨w1, hw1⟩ : ∃ w1, w.setCell ⟨B x.s, 2, none⟩ (.int .i64 (p : Int)) = w1 := ⟨_, rfl⟩
  have ho : Off (fun k => k = B x.s) w w1 := by rw [← hw1]; exact Off.setc _ _ _ _
  have hf1 : Frm w1 (B x.s) v x.dirty p x.used := by rw [← hw1]; exact Blk.set_ hf 2 _
  have hap := h.apart x hx
  have hc := h.upd (w' := w1) { x with pins := p } v ⟨x, hx, rfl⟩ (ho.mono fun k _ e => .inl e) (Blk.same h.head (ho.block g (Blk.lt h.head) (fun e => hap.1 e.symm))) hf1
    ((hv.same ho.size (fun k hk hlt => ho.block k hlt (fun e => hap.2.2 (e ▸ hk)))).mono fun k hk => grow.old hk) ⟨hsec.1, by have := hsec.2.2; show p < _; omega⟩
  have HO := Lib.hid (And.intro hc ho)
  have hpw : ((p + 1 : Nat) : Int) - 1 = (p : Int) := by omega
  have hpi : (p : Int) < 1000000000 := by have := hsec.2.2; omega
  have hpz : (((p + 1 : Nat) : Int) == 0) = false := by simp; omega
  obtain ⟨p1, hp1⟩ : ∃ p1, p + 1 = p1 := ⟨_, rfl⟩
  rw [hp1] at f2 hpw hpz
  have hwp : IntKind.i64.wrap ((p1 : Int) - 1) = (p : Int) := by rw [hpw]; exact IntWalk.i64_in _ (by omega)
  obtain ⟨bf, hbf⟩ : ∃ bf, B x.s = bf := ⟨_, rfl⟩
  rw [hbf] at hl f0 f1 f2 f3 ff hw1 HO
  rw [hbf]
  clear h hD hd hx hp hf hv hsec ho hf1 hap hc hp1 hpw hpi hbf
  go_enter Try.func23, Try.ntmps23
  go_wp2_with fail
  refine H1.out.mono ?_
  rintro e w' ⟨rfl, rfl⟩
  go_wp2_with fail
  go_ret
  exact ⟨rfl, HO.out⟩
end
end Go.Proofs.Ytiemfhncadcemaa
