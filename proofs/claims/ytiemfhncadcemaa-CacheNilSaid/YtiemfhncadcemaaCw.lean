/- cache: Flush. -/
import Derived.Test.YtiemfhncadcemaaCv
namespace Go.Proofs.Ytiemfhncadcemaa
open Go.RowKit Dsk
def key (x : Fr) : Nat × Nat := (x.s, x.pins)
theorem key_upd {y : Fr} {L : List Fr} (h : ∀ x ∈ L, x.s = y.s → x.pins = y.pins) : (updL y L).map key = L.map key := by
  unfold updL
  rw [List.map_map]
  refine List.map_congr_left (fun x hx => ?_)
  show key (if x.s = y.s then y else x) = key x
  split
  · rename_i e
    unfold key
    rw [e, h x hx e]
  · rfl
theorem key_s {L L' : List Fr} (h : L'.map key = L.map key) : L'.map Fr.s = L.map Fr.s := by
  have := congrArg (List.map Prod.fst) h
  rw [List.map_map, List.map_map] at this
  exact this
theorem key_len {L L' : List Fr} (h : L'.map key = L.map key) : L'.length = L.length := by
  have := congrArg List.length h
  simpa using this
theorem Sta.cleaned {n most t : Nat} {D : DS} {L : List Fr} (h : Sta n most t D L) {x : Fr} (hx : x ∈ L) :
    Sta n most (t + 1) (outD D x) (updL { x with dirty := false } L) ∧ ∀ j, what (outD D x) (updL { x with dirty := false } L) j = what D L j := by
  have hex : ∃ z ∈ L, z.s = ({ x with dirty := false } : Fr).s := ⟨x, hx, rfl⟩
  have hu := (h.mono (Nat.le_succ t)).upd (y := { x with dirty := true }) ⟨x, hx, rfl⟩ (fun hd => by cases hd) (by show x.pins ≤ t + 1; have := (h.inn x hx).2.1; omega) (h.inn x hx).2.2
  have hin : ∀ z ∈ updL ({ x with dirty := false } : Fr) L, (z = { x with dirty := false }) ∨ (z ∈ L ∧ z.s ≠ x.s) := fun z hz => by
    rcases updL_mem hz with ⟨e, _⟩ | e
    · exact .inl e
    · exact .inr e
  have hp : (updL ({ x with dirty := false } : Fr) L).Pairwise fun a b => a.s ≠ b.s := by
    unfold updL
    rw [List.pairwise_map]
    exact h.nodup.imp fun {a b} hab => by rw [updL_s, updL_s]; exact hab
  refine ⟨⟨h.outH hx, fun z hz hd => ?_, fun z hz => ?_, hp, by rw [updL_len]; exact h.len, h.top⟩, fun j => ?_⟩
  · rcases hin z hz with rfl | ⟨hz, hne⟩
    · show x.b = readS (outD D x) x.s
      rw [h.outR hx, if_pos rfl]
    · rw [h.outR hx, if_neg (fun e => hne e.symm)]; exact h.clean z hz hd
  · rcases hin z hz with rfl | ⟨hz, hne⟩
    · exact ⟨(h.inn x hx).1, Nat.le_succ_of_le (h.inn x hx).2.1, (h.inn x hx).2.2⟩
    · exact ⟨(h.inn z hz).1, Nat.le_succ_of_le (h.inn z hz).2.1, (h.inn z hz).2.2⟩
  · rw [what_upd h.nodup hex]
    split
    · rename_i e; rw [e]; exact (what_yes h.nodup hx).symm
    · rename_i hne
      by_cases hj : ∃ z ∈ L, z.s = j
      · obtain ⟨z, hz, rfl⟩ := hj
        rw [what_yes h.nodup hz, what_yes h.nodup hz]
      · have hn : ∀ z ∈ L, z.s ≠ j := fun z hz e => hj ⟨z, hz, e⟩
        rw [what_no hn, what_no hn, h.outR hx, if_neg (fun e => hne e.symm)]
/-- Between the rounds of Flush. -/
structure FlI (w0 w1 wr : World) (Y : Nat → Prop) (g dg mb n nn most time t j : Nat) (B : Nat → Nat) (D : DS) (L : List Fr) (V : List Nat) (D' : DS) (L' : List Fr) : Prop where
  run : ∃ E', RunC w0 wr Y g dg mb n most time B L' D' E'
  st : Sta nn most (t + j) D' L'
  what_ : ∀ i, what D' L' i = what D L i
  keys : L'.map key = L.map key
  clean : ∀ x ∈ L', x.s ∈ V.take j → x.dirty = false
  keep : Keep Y w1 wr
section
variable {w0 w w1 wr : World} {X Y : Nat → Prop} {g dg mb n nn most time t j s : Nat} {B : Nat → Nat} {L L' : List Fr} {V : List Nat} {D D' : DS}
theorem FlI.skip (h : FlI w0 w1 wr Y g dg mb n nn most time t j B D L V D' L') {x : Fr} (hx : x ∈ L') (hv : V[j]? = some x.s) (hd : x.dirty = false) : FlI w0 w1 wr Y g dg mb n nn most time t (j + 1) B D L V D' L' :=
  ⟨h.run, h.st.mono (by omega), h.what_, h.keys, fun y hy hm => by
    obtain ⟨hj, e⟩ := List.getElem?_eq_some_iff.1 hv
    rw [List.take_succ_eq_append_getElem hj, e] at hm
    rcases List.mem_append.1 hm with hm | hm
    · exact h.clean y hy hm
    · rw [uniq h.st.nodup hy hx (List.mem_singleton.1 hm)]; exact hd, h.keep⟩
theorem FlI.next {w2 : World} {E' : Nat → Prop} (h : FlI w0 w1 wr Y g dg mb n nn most time t j B D L V D' L') {x : Fr} (hx : x ∈ L') (hv : V[j]? = some x.s) (hd : x.dirty = true) (hr : RunC w0 w2 Y g dg mb n most time B L' (writeD D' (x.s : Int) x.b) E') (hk : Keep Y wr w2) :
    FlI w0 w1 (w2.setCell ⟨B x.s, 1, none⟩ (.bool false)) Y g dg mb n nn most time t (j + 1) B D L V (outD D' x) (updL { x with dirty := false } L') := by
  have e0 : outD D' x = writeD D' (x.s : Int) x.b := by unfold outD; rw [hd]; rfl
  obtain ⟨v, hf, hs⟩ := hr.cm.frm x hx
  have hap := hr.cm.apart x hx
  have ho : Off (fun k => k = B x.s ∨ k = g) w2 (w2.setCell ⟨B x.s, 1, none⟩ (.bool false)) := (Off.setc _ _ _ _).mono fun k _ e => .inl e
  have hf1 : Frm (w2.setCell ⟨B x.s, 1, none⟩ (.bool false)) (B x.s) v false x.pins x.used := Blk.set_ hf 1 _
  have hc := hr.cm.upd (y := { x with dirty := false }) v ⟨x, hx, rfl⟩ ho (Blk.far hr.cm.head (p := ⟨B x.s, 1, none⟩) (fun e => hap.1 e.symm) _) hf1
    ((hs.same ho.size (fun k hk hl => ho.block k hl (fun e => by
      rcases e with e | e
      · exact hap.2.2 (e ▸ hk)
      · exact hr.cm.e1 (e ▸ hk)))).mono fun k hk => grow.old hk) ⟨(hr.cm.secs x hx).1, (hr.cm.secs x hx).2.2⟩
  obtain ⟨q1, q2⟩ := hr.turned (y := { x with dirty := false }) ⟨x, hx, rfl⟩ hc ho
  obtain ⟨s1, s2⟩ := h.st.cleaned hx
  refine ⟨⟨_, by rw [e0]; exact q1⟩, s1, fun i => (s2 i).trans (h.what_ i), (key_upd (fun z hz e => by rw [uniq h.st.nodup hz hx e])).trans h.keys, fun y hy hm => ?_, (h.keep.trans hk).trans q2⟩
  rcases updL_mem hy with ⟨rfl, _⟩ | ⟨hy, hne⟩
  · rfl
  · obtain ⟨hj, e⟩ := List.getElem?_eq_some_iff.1 hv
    rw [List.take_succ_eq_append_getElem hj, e] at hm
    rcases List.mem_append.1 hm with hm | hm
    · exact h.clean y hy hm
    · exact absurd (List.mem_singleton.1 hm) hne
set_option maxRecDepth 20000 in
set_option maxHeartbeats 2000000 in
theorem CS.flush (h : CS w0 w X g dg nn most t D L) (ht : t < 900000) :
    Calls Try.prog 17 #[.pointer (some ⟨g, 0, none⟩)] w fun e w' => ∃ D' L', e = .returned (.int .i64 0) ∧ L'.map key = L.map key ∧ (∀ x ∈ L', x.dirty = false) ∧ (∀ j, what D' L' j = what D L j) ∧ (∀ j, D'.S.getD j [] = what D L j) ∧ CS w0 w' X g dg nn most (t + 1025) D' L' ∧ Keep X w w' := by
  have H1 := Lib.hid h.ref_
  have hst := h.st
  have hpos := h.pos
  obtain ⟨⟨mb, n, time, B, E, h1, h2, h5⟩, _, _⟩ := h
  have hl1024 : L.length ≤ 1024 := by have := hst.len; have := hst.top; omega
  have HRS := Lib.hid (rising_any g dg mb n most time E B L w h1.cm hl1024)
  obtain ⟨l, hll⟩ : ∃ l, L.length = l := ⟨_, rfl⟩
  rw [hll] at hl1024 HRS
  have HF := Lib.hid (And.intro h1 (And.intro hst (And.intro hpos (And.intro h2 (And.intro h5 (And.intro hll ht))))))
  clear h1 hst hpos h2 h5 hll ht
  go_enter Try.func17, Try.ntmps17
  go_wp2_with fail
  refine H1.out.mono ?_
  rintro e w' ⟨rfl, rfl⟩
  go_wp2_with fail
  refine HRS.out.mono ?_
  rintro e w1 ⟨q, c, V, rfl, k1, k2, k3, k4, k5, k6⟩
  have HV := Lib.hid (And.intro k2 (And.intro k3 (And.intro k4 k5)))
  have HI0 : Hid (∃ D' L', FlI w0 w1 w1 (fun k => X k ∨ k = q) g dg mb n nn most time t 0 B D L V D' L') := Lib.hid ⟨D, L, ⟨⟨E, HF.out.1.more k6 _ (fun k hk => hk.imp id fun e => by
    have := k1.1; have := k1.2; omega)⟩, HF.out.2.1, fun _ => rfl, rfl, (fun x _ hm => by cases hm), ⟨Nat.le_refl _, fun _ _ => rfl⟩⟩⟩
  have HK0 := Lib.hid (HF.out.1.below k6).2
  clear k1 k2 k3 k4 k5 k6 H1 HRS
  go_wp2_with fail
  go_loopw [5, 6, 7, 16] (fun _ _ _ iv wr => ∃ j : Nat, j ≤ l ∧ iv = .int .i64 (j : Int) ∧ Hid (∃ D' L', FlI w0 w1 wr (fun k => X k ∨ k = q) g dg mb n nn most time t j B D L V D' L')) (fun _ _ _ iv _ => l - (intOf iv).toNat)
  case atStart => exact ⟨0, Nat.zero_le _, rfl, HI0⟩
  case round =>
    clear HI0
    obtain ⟨j, hj, rfl, hI⟩ := hrel
    obtain ⟨D', L', hI⟩ := hI.out
    have HI := Lib.hid hI
    obtain ⟨E', hrun⟩ := hI.run
    obtain ⟨c0, c1, c2, c3, _⟩ := hrun.cm.head.told
    by_cases hlt : j < l
    · have hd : decide ((j : Int) < (l : Int)) = true := by simpa using hlt
      obtain ⟨v, hv⟩ : ∃ v, V[j]? = some v := ⟨_, List.getElem?_eq_getElem (by rw [HV.out.2.1]; exact hlt)⟩
      obtain ⟨x, hx, hxs⟩ : ∃ x ∈ L', x.s = v := by
        obtain ⟨x, hx, e⟩ := HV.out.2.2.2 v (List.mem_of_getElem? hv)
        have hm : v ∈ L'.map Fr.s := by rw [key_s hI.keys, ← e]; exact List.mem_map.2 ⟨x, hx, rfl⟩
        exact List.mem_map.1 hm
      subst hxs
      obtain ⟨q', off, e0, hqlt, hcq, _⟩ := HV.out.1 j (x.s : Int) (nums_get hv)
      have e0 := Option.some.inj e0
      injection e0 with e1 e2
      subst e1
      subst e2
      rw [Nat.zero_add] at hcq
      have hcq := (World.cell?_of_block (a := ⟨q, j, none⟩) (hI.keep.at_ q (.inr rfl))).trans hcq
      have hlk := hrun.cm.look_yes hx
      obtain ⟨v, hf, hsec⟩ := hrun.cm.frm x hx
      have hin := hI.st.inn x hx
      cases hdx : x.dirty with
      | false =>
        have HI2 := Lib.hid (HI.out.skip hx hv hdx)
        obtain ⟨f0, f1, f2, f3, _⟩ := hf.told
        rw [hdx] at f1
        obtain ⟨bf, hbf⟩ : ∃ bf, B x.s = bf := ⟨_, rfl⟩
        rw [hbf] at hlk f0 f1 f2 f3
        clear hI hrun hx hf hsec hin hv hdx hqlt hbf
        go_wp2_with fail
        go_roundw
        case rel => exact ⟨j + 1, by omega, by go_num, Lib.hid ⟨D', L', HI2.out⟩⟩
        case measure => simp [intOf]; omega
      | true =>
        obtain ⟨A, cc, rfl, _, _, hby, _⟩ := hsec
        obtain ⟨f0, f1, f2, f3, _⟩ := hf.told
        rw [hdx] at f1
        rw [hin.2.2] at f0
        have hP := hI.st.hale.P
        have hS := hI.st.hale.steps
        have htt := HF.out.2.2.2.2.2.2
        have HW : Hid (∀ q' , Calls Try.prog 34 #[.pointer (some ⟨dg, 0, none⟩), .int .i64 (x.s : Int), .slice A 256 cc] (wr.drewN q') fun e w' => e = .returned (.int .i64 0) ∧ RunC w0 w' (fun k => X k ∨ k = q) g dg mb n most time B L' (writeD D' (x.s : Int) x.b) E' ∧ Keep (fun k => X k ∨ k = q) wr w') := Lib.hid (fun q' => by
          have := hrun.writes hx (c := cc) hby (by omega) (by omega) q'
          rw [hI.st.hale.writeE hin.1 hin.2.2] at this
          exact this)
        have HX := Lib.hid (And.intro hx (And.intro hv hdx))
        obtain ⟨bf, hbf⟩ : ∃ bf, B x.s = bf := ⟨_, rfl⟩
        have HBF := Lib.hid hbf
        rw [hbf] at hlk f0 f1 f2 f3
        clear hI hrun hx hf hby hin hv hdx hqlt hbf hP hS htt
        go_wp2_with fail
        go_region_with (go_at_call 34; refine (HW.out _).mono ?_; rintro e w2 ⟨rfl, hrc, hk⟩
                        have HN := Lib.hid (HI.out.next HX.out.1 HX.out.2.1 HX.out.2.2 hrc hk)
                        obtain ⟨v2, hf2, _⟩ := hrc.cm.frm x HX.out.1
                        rw [HBF.out] at hf2 HN
                        obtain ⟨g0, g1, g2, g3, gf⟩ := hf2.told
                        clear hrc hk hf2)
        all_goals
          go_wp2_with fail
          go_roundw
          case rel => exact ⟨j + 1, by omega, by go_num, Lib.hid ⟨_, _, HN.out⟩⟩
          case measure => simp [intOf]; omega
    · obtain rfl : l = j := by omega
      have hd : decide ((l : Int) < (l : Int)) = false := by simp
      have htt := HF.out.2.2.2.2.2.2
      have hP := hI.st.hale.P
      have hS := hI.st.hale.steps
      have hbar := hrun.run.barrier (by omega) (by omega)
      rw [hI.st.hale.barE] at hbar
      have HB := Lib.hid hbar
      have HRUN := Lib.hid hrun
      clear hI hrun htt hP hS hbar
      go_wp2_with fail
      refine HB.out.mono ?_
      rintro e w2 ⟨rfl, r1, r2⟩
      have HR := Lib.hid (show L'.map key = L.map key ∧ (∀ x ∈ L', x.dirty = false) ∧ (∀ j, what (barD D') L' j = what D L j) ∧ (∀ j, (barD D').S.getD j [] = what D L j) ∧ CS w0 w2 X g dg nn most (t + 1025) (barD D') L' ∧ Keep X w w2 by
        have hI := HI.out
        have hcl : ∀ x ∈ L', x.dirty = false := fun x hx => hI.clean x hx (by
          rw [List.take_of_length_le (by rw [HV.out.2.1]; exact Nat.le_refl _)]
          have hm : x.s ∈ L.map Fr.s := by rw [← key_s hI.keys]; exact List.mem_map.2 ⟨x, hx, rfl⟩
          obtain ⟨z, hz, e⟩ := List.mem_map.1 hm
          rw [← e]; exact HV.out.2.2.1 z hz)
        have hw : ∀ j, what (barD D') L' j = what D' L' j := fun j => by
          unfold what
          rw [hI.st.hale.barR]
        have hrd : ∀ j, readS D' j = what D' L' j := fun j => by
          by_cases hj : ∃ z ∈ L', z.s = j
          · obtain ⟨z, hz, rfl⟩ := hj
            rw [what_yes hI.st.nodup hz]; exact (hI.st.clean z hz (hcl z hz)).symm
          · rw [what_no (fun z hz e => hj ⟨z, hz, e⟩)]
        have hst : Sta nn most (t + 1025) (barD D') L' := by
          have h9 := (hI.st.mono (show t + l ≤ t + 1024 by omega))
          exact ⟨h9.hale.bar, fun x hx hd => by rw [hI.st.hale.barR]; exact hI.st.clean x hx hd, fun x hx => ⟨(h9.inn x hx).1, by have := (h9.inn x hx).2.1; omega, (h9.inn x hx).2.2⟩, h9.nodup, h9.len, h9.top⟩
        have hrs := (HRUN.out.step r1 r2)
        refine ⟨hI.keys, hcl, fun j => (hw j).trans (hI.what_ j), fun j => by rw [hI.st.hale.barS, hrd, hI.what_], ?_, HK0.out.trans ((hI.keep.less fun k hk => .inl hk).trans (r2.less fun k hk => .inl (.inl hk)))⟩
        exact (CS.less (X := fun k => X k ∨ k = q) ⟨⟨mb, n, time, B, E', hrs, by have := HF.out.2.2.2.1; omega, by have := HF.out.2.2.2.2.1; omega⟩, hst, HF.out.2.2.1⟩ fun k hk => .inl hk))
      clear r1 r2
      go_wp2_with fail
      go_ret
      exact ⟨_, _, rfl, HR.out⟩
end
end Go.Proofs.Ytiemfhncadcemaa
