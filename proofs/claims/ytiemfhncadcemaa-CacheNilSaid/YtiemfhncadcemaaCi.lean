/- cache: putOut of a dirty frame. -/
import Derived.Test.YtiemfhncadcemaaCh
import Derived.Deep.RegionWith
namespace Go.Proofs.Ytiemfhncadcemaa
open Go.RowKit Dsk
section
variable {w0 w : World} {X E : Nat → Prop} {g dg mb n most time : Nat} {B : Nat → Nat} {L : List Fr} {D : DS}
theorem RunC.drewN (h : RunC w0 w X g dg mb n most time B L D E) (q : Nat) : RunC w0 (w.drewN q) X g dg mb n most time B L D E :=
  ⟨h.cm.below (drewN_below w q), h.run.below (drewN_below w q), h.far⟩
theorem RunC.writes (h : RunC w0 w X g dg mb n most time B L D E) {x : Fr} (hx : x ∈ L) {A : Option Addr} {c : Nat} (hb : Bytes w A x.b) (hP : D.P.length < 1000000) (hS : D.steps < 1000000000) (q : Nat) :
    Calls Try.prog 34 #[.pointer (some ⟨dg, 0, none⟩), .int .i64 (x.s : Int), .slice A 256 c] (w.drewN q) fun e w' => e = .returned (.int .i64 (writeE D (x.s : Int) x.b)) ∧ RunC w0 w' X g dg mb n most time B L (writeD D (x.s : Int) x.b) E ∧ Keep X w w' := by
  have h' := h.drewN q
  refine (h'.run.write 256 c A (x.s : Int) x.b (h.cm.secs x hx).1 (hb.below (drewN_below w q)) hP hS).mono ?_
  rintro e w' ⟨rfl, h1, h2⟩
  exact ⟨rfl, h'.step h1 h2, ⟨h2.size, fun k hk => h2.at_ k (.inl hk)⟩⟩
set_option maxRecDepth 20000 in
set_option maxHeartbeats 1000000 in
theorem putOut_no (h : RunC w0 w X g dg mb n most time B L D E) {x : Fr} (hx : x ∈ L) (hd : x.dirty = true) (hP : D.P.length < 1000000) (hS : D.steps < 1000000000) (he : writeE D (x.s : Int) x.b ≠ 0) :
    Calls Try.prog 40 #[.pointer (some ⟨g, 0, none⟩), .int .i64 (x.s : Int)] w fun e w' => e = .returned (.int .i64 (writeE D (x.s : Int) x.b)) ∧ RunC w0 w' X g dg mb n most time B L (writeD D (x.s : Int) x.b) E ∧ Keep X w w' := by
  have hl := h.cm.look_yes hx
  obtain ⟨c0, c1, c2, c3, _⟩ := h.cm.head.told
  obtain ⟨v, hf, A, c, rfl, _, _, hby, _⟩ := h.cm.frm x hx
  obtain ⟨f0, f1, f2, f3, _⟩ := hf.told
  rw [hd] at f1
  rw [(h.cm.secs x hx).1] at f0
  have HW := Lib.hid (h.writes hx (c := c) hby hP hS)
  obtain ⟨ee, hee⟩ : ∃ ee, writeE D (x.s : Int) x.b = ee := ⟨_, rfl⟩
  rw [hee] at HW he
  rw [hee]
  have hen : (ee != 0) = true := by simpa using he
  clear h hd hx hf hby hP hS hee
  go_enter Try.func40, Try.ntmps40
  go_wp2_with fail
  go_region_with (go_at_call 34; refine (HW.out _).mono ?_; rintro e w2 ⟨rfl, hrc, hk⟩; have HRC := Lib.hid hrc; have HK := Lib.hid hk; clear hrc hk)
  all_goals
    go_wp2_with fail
    go_ret
    exact ⟨rfl, HRC.out, HK.out⟩
set_option maxRecDepth 20000 in
set_option maxHeartbeats 1000000 in
theorem putOut_yes (h : RunC w0 w X g dg mb n most time B L D E) {x : Fr} (hx : x ∈ L) (hd : x.dirty = true) (hP : D.P.length < 1000000) (hS : D.steps < 1000000000) (he : writeE D (x.s : Int) x.b = 0) :
    Calls Try.prog 40 #[.pointer (some ⟨g, 0, none⟩), .int .i64 (x.s : Int)] w fun e w' => e = .returned (.int .i64 0) ∧ RunC w0 w' X g dg mb n most time B (delL x.s L) (writeD D (x.s : Int) x.b) E ∧ Keep X w w' := by
  have hl := h.cm.look_yes hx
  obtain ⟨c0, c1, c2, c3, _⟩ := h.cm.head.told
  obtain ⟨v, hf, A, c, rfl, _, _, hby, _⟩ := h.cm.frm x hx
  obtain ⟨f0, f1, f2, f3, _⟩ := hf.told
  rw [hd] at f1
  rw [(h.cm.secs x hx).1] at f0
  have HW := h.writes hx (c := c) hby hP hS
  rw [he] at HW
  replace HW := Lib.hid HW
  have HX := Lib.hid hx
  have HWF : Hid ((Lit.int .i64 (x.s : Int)).wf = true) := Lib.hid (WalkArith.wf_i64 (by have := (h.cm.secs x hx).2.1; omega))
  clear h hd hx hf hby hP hS he
  go_enter Try.func40, Try.ntmps40
  go_wp2_with fail
  go_region_with (go_at_call 34; refine (HW.out _).mono ?_; rintro e w2 ⟨rfl, hrc, hk⟩; have HRC := Lib.hid hrc; have HK := Lib.hid hk; obtain ⟨k0, k1, k2, k3, _⟩ := hrc.cm.head.told; obtain ⟨w3, hdel, hm, ho⟩ := hrc.cm.map.drop (x.s : Int) HWF.out 0; have HO := Lib.hid (hrc.gone (hrc.cm.del x.s ⟨x, HX.out, rfl⟩ hm ho) ho); clear hrc hk hm ho)
  all_goals
    go_wp2_with fail
    go_ret
    exact ⟨rfl, HO.out.1, HK.out.trans HO.out.2⟩
end
end Go.Proofs.Ytiemfhncadcemaa
