/- stamp: the reference's Data. -/
import Derived.Test.YtadogebhkldeiaaGreatDoorZPa
import Derived.Laws.ResultCell
import Derived.Laws.Rows
namespace Go.Proofs.YtadogebhkldeiaaGreatDoor
open Go.RowKit Ty
set_option linter.unusedVariables false
set_option linter.unusedSimpArgs false
attribute [local go_sem] Oper.semAt_some
theorem results_cell_tmp_row {P : Program} {fn : Func} {p u : Tmp} {ty : TypeId} (h : fn.results = #[.cell p ty, .tmp u]) (tmps : Array Value) (w : World) (g : Nat) (t : TypeId) (cs : Array Value) (fr : Nat × Nat) (d : TypeDesc)
    (hp : tmps.getD p undef = .pointer (some ⟨g, 0, none⟩)) (hg : w.heap[g]? = some (.cells cs t fr))
    (hu : P.underlying ty = some d) (hd : (match d with | .struct _ | .array _ _ => true | _ => false) = true) (hi : (P.info? ty).map (·.size) = some cs.size) :
    (results fn tmps).run P w = .ok (.tuple #[.agg cs, tmps.getD u undef]) w := by
  rw [results_cell_tmp h]
  have hp' : tmps[p]?.getD undef = .pointer (some ⟨g, 0, none⟩) := by simpa using hp
  simp [hp', asAddr, run_loadVar_row w g t ty cs fr d hg hu hd hi, Result.andThen]
theorem put1_at (D : List UInt8 → Option Dc) (d : Dc) (s : List UInt8) : put1 D d s = if d.k = 1 ∧ d.nm = s ∧ (D s).isSome = false then some d else D s := by
  unfold put1
  by_cases h2 : s = d.nm
  · subst h2
    by_cases h3 : (D d.nm).isSome = false ∧ d.k = 1
    · rw [if_pos h3, if_pos (c := d.k = 1 ∧ d.nm = d.nm ∧ (D d.nm).isSome = false) ⟨h3.2, rfl, h3.1⟩]
      show (if d.nm = d.nm then some d else D d.nm) = _
      rw [if_pos rfl]
    · rw [if_neg h3, if_neg (fun h => h3 ⟨h.2.2, h.1⟩)]
  · rw [if_neg (c := d.k = 1 ∧ d.nm = s ∧ (D s).isSome = false) (fun h => h2 h.2.1.symm)]
    split
    · show (if s = d.nm then some d else D s) = _
      rw [if_neg h2]
    · rfl
theorem bookD_none {ds : List Dc} {i : Nat} {d : Dc} {s : List UInt8} (h : ds[i]? = some d) (hn : bookD (ds.take i) s = none) : bookD (ds.take (i + 1)) s = if d.k = 1 ∧ d.nm = s then some d else none := by
  rw [bookD_next h, put1_at, hn]
  by_cases h1 : d.k = 1 ∧ d.nm = s
  · rw [if_pos h1, if_pos ⟨h1.1, h1.2, rfl⟩]
  · rw [if_neg h1, if_neg (fun h => h1 ⟨h.1, h.2.1⟩)]
theorem put1_keep {D : List UInt8 → Option Dc} {d e : Dc} {s : List UInt8} (h : D s = some e) : put1 D d s = some e := by
  rw [put1_at, if_neg (fun h2 => by rw [h] at h2; cases h2.2.2), h]
theorem fold_keep : ∀ (l : List Dc) {D : List UInt8 → Option Dc} {e : Dc} {s : List UInt8}, D s = some e → l.foldl put1 D s = some e
  | [], _, _, _, h => h
  | d :: l, _, _, _, h => fold_keep l (put1_keep h)
theorem bookD_stay {ds : List Dc} {i : Nat} {s : List UInt8} {e : Dc} (h : bookD (ds.take i) s = some e) : bookD ds s = some e := by
  have h2 := fold_keep (ds.drop i) h
  unfold bookD at h2 ⊢
  rw [← List.foldl_append, List.take_append_drop] at h2
  exact h2
theorem dec16 : (Tryz.prog.info? 42).map (·.size) = some 16 := by kernel_rfl
set_option maxRecDepth 100000 in
set_option maxHeartbeats 8000000 in
theorem data_any (ds : List Dc) (dsA : Option Addr) (dn dsc : Nat) (hdn : ds.length = dn) (hdx : dn ≤ 400000) (s : List UInt8) (w : World) (hK : DsAt (fun k => k < w.heap.size) w dsA ds) :
    Calls Tryz.prog 18 #[.slice dsA dn dsc, .string (str s)] w fun e w' => (∃ d : Dc, e = .returned (.tuple #[d.val, .bool (bookD ds s).isSome])) ∧ Below w.heap.size w w' := by
  obtain ⟨q, hq⟩ : ∃ q, w.heap.size = q := ⟨_, rfl⟩
  obtain ⟨w1, hw1⟩ : ∃ W, w.alloc (.cells #[.int .u8 0, .string ⟨#[]⟩, .slice none 0 0, .slice none 0 0, .slice none 0 0, .int .u8 0, .string ⟨#[]⟩, .int .i64 0, .slice none 0 0, .int .u8 0, .string ⟨#[]⟩, .int .i64 0, .string ⟨#[]⟩, .slice none 0 0, .slice none 0 0, .slice none 0 0] 42) = W := ⟨_, rfl⟩
  have hb1 : Below w.heap.size w w1 := by rw [← hw1]; exact (Below.refl _ _).alloc (Nat.le_refl _) _
  have hB1 : Blk w1 w.heap.size 42 #[.int .u8 0, .string ⟨#[]⟩, .slice none 0 0, .slice none 0 0, .slice none 0 0, .int .u8 0, .string ⟨#[]⟩, .int .i64 0, .slice none 0 0, .int .u8 0, .string ⟨#[]⟩, .int .i64 0, .string ⟨#[]⟩, .slice none 0 0, .slice none 0 0, .slice none 0 0] := by rw [← hw1]; exact Blk.new _ _ _
  rw [hq] at hB1
  have hK1 := (hK.off (Off.of_new hb1 (fun k => ¬ (k < w.heap.size))) fun b h1 h2 => h2 h1)
  have HK := Lib.hid (And.intro hdn (And.intro hK1 (And.intro hb1 hB1)))
  have HW := Lib.hid (And.intro hw1 hq)
  rw [hq]
  rw [hq] at HK
  clear hdn hK hw1 hb1 hB1 hK1 hq
  go_enter Tryz.func18, Tryz.ntmps18
  go_upto_region 1 with fail
  (try rw [HW.out.1])
  (try rw [HW.out.2])
  go_wp2_with fail
  go_loopw [6] (fun iv wr => ∃ (i : Nat), i ≤ dn ∧ iv = .int .i64 (i : Int) ∧ w1 = wr ∧ Hid (bookD (ds.take i) s = none)) (fun iv _ => dn - (intOf iv).toNat)
  case atStart => exact ⟨0, Nat.zero_le _, rfl, rfl, Lib.hid rfl⟩
  case round =>
    obtain ⟨i, hi, rfl, rfl, HJ⟩ := hrel
    by_cases hli : i < dn
    · have hd : decide ((i : Int) < (dn : Int)) = true := by simpa using hli
      obtain ⟨d, hdd⟩ : ∃ d, ds[i]? = some d := ⟨_, List.getElem?_eq_getElem (by rw [HK.out.1]; exact hli)⟩
      obtain ⟨b, off, rfl, hXb, hbl, hcl, hKd, _⟩ := HK.out.2.1 i d hdd
      obtain ⟨vl, hvl⟩ : ∃ vl, d.vs.length = vl := ⟨_, rfl⟩
      obtain ⟨cl, hcn⟩ : ∃ cl, d.cs.length = cl := ⟨_, rfl⟩
      have k0 : w1.cell? ⟨b, off + i * 16, none⟩ = some (.int .u8 (d.k : Int)) := by have h := hcl 0 _ rfl; exact h
      have k1 : w1.cell? ⟨b, off + i * 16 + 1, none⟩ = some (.string (str d.nm)) := by have h := hcl 1 _ rfl; exact h
      have k2 : w1.cell? ⟨b, off + i * 16 + 2, none⟩ = some (.slice d.vA vl d.vc) := by have h := hcl 2 _ rfl; rw [hvl] at h; exact h
      have k3 : w1.cell? ⟨b, off + i * 16 + 3, none⟩ = some (.slice d.cA cl d.cc) := by have h := hcl 3 _ rfl; rw [hcn] at h; exact h
      have k4 : w1.cell? ⟨b, off + i * 16 + 4, none⟩ = some (.slice d.r.fA d.r.fl d.r.fc) := by have h := hcl 4 _ rfl; exact h
      have k5 : w1.cell? ⟨b, off + i * 16 + 5, none⟩ = some (.int .u8 d.r.tk) := by have h := hcl 5 _ rfl; exact h
      have k6 : w1.cell? ⟨b, off + i * 16 + 5 + 1, none⟩ = some (.string d.r.ts) := by have h := hcl 6 _ rfl; exact h
      have k7 : w1.cell? ⟨b, off + i * 16 + 5 + 2, none⟩ = some (.int .i64 d.r.tn) := by have h := hcl 7 _ rfl; exact h
      have k8 : w1.cell? ⟨b, off + i * 16 + 5 + 3, none⟩ = some (.slice d.r.tA d.r.tl d.r.tc) := by have h := hcl 8 _ rfl; exact h
      have k9 : w1.cell? ⟨b, off + i * 16 + 9, none⟩ = some (.int .u8 d.r.ek) := by have h := hcl 9 _ rfl; exact h
      have ka : w1.cell? ⟨b, off + i * 16 + 9 + 1, none⟩ = some (.string d.r.es) := by have h := hcl 10 _ rfl; exact h
      have kb : w1.cell? ⟨b, off + i * 16 + 9 + 2, none⟩ = some (.int .i64 d.r.en) := by have h := hcl 11 _ rfl; exact h
      have kc : w1.cell? ⟨b, off + i * 16 + 9 + 3, none⟩ = some (.string d.r.et) := by have h := hcl 12 _ rfl; exact h
      have kd : w1.cell? ⟨b, off + i * 16 + 9 + 4, none⟩ = some (.slice d.r.kA d.r.kl d.r.kc) := by have h := hcl 13 _ rfl; exact h
      have ke : w1.cell? ⟨b, off + i * 16 + 9 + 5, none⟩ = some (.slice d.r.rA d.r.rl d.r.rc) := by have h := hcl 14 _ rfl; exact h
      have kf : w1.cell? ⟨b, off + i * 16 + 9 + 6, none⟩ = some (.slice d.r.dA d.r.dl d.r.dc) := by have h := hcl 15 _ rfl; exact h
      have HNX := Lib.hid (bookD_none hdd HJ.out)
      have HV := Lib.hid (And.intro hvl (And.intro hcn (And.intro (fun (e : Dc) (h : bookD (ds.take (i + 1)) s = some e) => bookD_stay h) (show b ≠ q by omega))))
      clear hcl hKd hdd hvl hcn hXb hbl HJ
      by_cases hk1 : d.k = 1
      · have ek : ((d.k : Int) == 1) = true := by rw [hk1]; rfl
        by_cases hs : d.nm = s
        · have es : ((str d.nm).toList == (str s).toList) = true := by rw [hs]; exact beq_self_eq_true _
          have HF := Lib.hid (HV.out.2.2.1 d (by rw [HNX.out, if_pos ⟨hk1, hs⟩]))
          have HP : Hid (Below q w (w1.setRow q #[.int .u8 (d.k : Int), .string (str d.nm), .slice d.vA vl d.vc, .slice d.cA cl d.cc, .slice d.r.fA d.r.fl d.r.fc, .int .u8 d.r.tk, .string d.r.ts, .int .i64 d.r.tn, .slice d.r.tA d.r.tl d.r.tc, .int .u8 d.r.ek, .string d.r.es, .int .i64 d.r.en, .string d.r.et, .slice d.r.kA d.r.kl d.r.kc, .slice d.r.rA d.r.rl d.r.rc, .slice d.r.dA d.r.dl d.r.dc]) ∧ d.val = .agg #[.int .u8 (d.k : Int), .string (str d.nm), .slice d.vA vl d.vc, .slice d.cA cl d.cc, .slice d.r.fA d.r.fl d.r.fc, .int .u8 d.r.tk, .string d.r.ts, .int .i64 d.r.tn, .slice d.r.tA d.r.tl d.r.tc, .int .u8 d.r.ek, .string d.r.es, .int .i64 d.r.en, .string d.r.et, .slice d.r.kA d.r.kl d.r.kc, .slice d.r.rA d.r.rl d.r.rc, .slice d.r.dA d.r.dl d.r.dc]) := Lib.hid ⟨HK.out.2.2.1.trans ⟨rfl, rfl, rfl, by simp, fun k hk => setRow_other w1 q k _ (by omega)⟩, by unfold Dc.val; rw [HV.out.1, HV.out.2.1]⟩
          have HON : Hid ((#[.int .u8 (d.k : Int), .string (str d.nm), .slice d.vA vl d.vc, .slice d.cA cl d.cc, .slice d.r.fA d.r.fl d.r.fc, .int .u8 d.r.tk, .string d.r.ts, .int .i64 d.r.tn, .slice d.r.tA d.r.tl d.r.tc, .int .u8 d.r.ek, .string d.r.es, .int .i64 d.r.en, .string d.r.et, .slice d.r.kA d.r.kl d.r.kc, .slice d.r.rA d.r.rl d.r.rc, .slice d.r.dA d.r.dl d.r.dc] : Array Value).all (·.oneCell') = true) := Lib.hid (by simp [Value.oneCell'])
          have HB6 : Hid ((w1.setRow q #[.int .u8 (d.k : Int), .string (str d.nm), .slice d.vA vl d.vc, .slice d.cA cl d.cc, .slice d.r.fA d.r.fl d.r.fc, .int .u8 d.r.tk, .string d.r.ts, .int .i64 d.r.tn, .slice d.r.tA d.r.tl d.r.tc, .int .u8 d.r.ek, .string d.r.es, .int .i64 d.r.en, .string d.r.et, .slice d.r.kA d.r.kl d.r.kc, .slice d.r.rA d.r.rl d.r.rc, .slice d.r.dA d.r.dl d.r.dc]).heap[q]? = some (.cells #[.int .u8 (d.k : Int), .string (str d.nm), .slice d.vA vl d.vc, .slice d.cA cl d.cc, .slice d.r.fA d.r.fl d.r.fc, .int .u8 d.r.tk, .string d.r.ts, .int .i64 d.r.tn, .slice d.r.tA d.r.tl d.r.tc, .int .u8 d.r.ek, .string d.r.es, .int .i64 d.r.en, .string d.r.et, .slice d.r.kA d.r.kl d.r.kc, .slice d.r.rA d.r.rl d.r.rc, .slice d.r.dA d.r.dl d.r.dc] 42 (0, 0))) := Lib.hid (setRow_heap w1 q _ _ 42 (0, 0) HK.out.2.2.2)
          clear hk1 hs HNX
          go_wp2_with (refine wpList_store_row rfl 42 (.tmp 4) (.tmp 31) rfl q #[.int .u8 (d.k : Int), .string (str d.nm), .slice d.vA vl d.vc, .slice d.cA cl d.cc, .slice d.r.fA d.r.fl d.r.fc, .int .u8 d.r.tk, .string d.r.ts, .int .i64 d.r.tn, .slice d.r.tA d.r.tl d.r.tc, .int .u8 d.r.ek, .string d.r.es, .int .i64 d.r.en, .string d.r.et, .slice d.r.kA d.r.kl d.r.kc, .slice d.r.rA d.r.rl d.r.rc, .slice d.r.dA d.r.dl d.r.dc] rfl rfl 42 _ HK.out.2.2.2 dec16 rfl HON.out ?_)
          (try simp only [Exit.inBlock, Exit.then])
          refine bodyPost_ret (results_cell_tmp_row rfl _ _ q 42 _ (0, 0) _ rfl HB6.out Tryz.underlying42 rfl dec16) rfl ?_
          exact ⟨⟨d, by rw [HF.out, HP.out.2] <;> rfl⟩, HP.out.1⟩
        · have es : ((str d.nm).toList == (str s).toList) = false := by
            rw [beq_eq_false_iff_ne]
            intro h
            rw [str_toList, str_toList] at h
            exact hs h
          have HN : Hid (bookD (ds.take (i + 1)) s = none) := Lib.hid (by rw [HNX.out, if_neg (fun h => hs h.2)])
          clear hk1 hs HNX
          go_wp2_with fail
          go_roundw
          case rel => exact ⟨i + 1, by omega, by go_num, trivial, HN⟩
          case measure => simp [intOf]; omega
      · have ek : ((d.k : Int) == 1) = false := by rw [beq_eq_false_iff_ne]; omega
        have HN : Hid (bookD (ds.take (i + 1)) s = none) := Lib.hid (by rw [HNX.out, if_neg (fun h => hk1 h.1)])
        clear hk1 HNX
        go_wp2_with fail
        go_roundw
        case rel => exact ⟨i + 1, by omega, by go_num, trivial, HN⟩
        case measure => simp [intOf]; omega
    · obtain rfl : dn = i := by omega
      have hd : decide ((dn : Int) < (dn : Int)) = false := by simp
      have HP : Hid (Below q w (w1.setRow q #[.int .u8 0, .string ⟨#[]⟩, .slice none 0 0, .slice none 0 0, .slice none 0 0, .int .u8 0, .string ⟨#[]⟩, .int .i64 0, .slice none 0 0, .int .u8 0, .string ⟨#[]⟩, .int .i64 0, .string ⟨#[]⟩, .slice none 0 0, .slice none 0 0, .slice none 0 0]) ∧ bookD ds s = none) := Lib.hid ⟨HK.out.2.2.1.trans ⟨rfl, rfl, rfl, by simp, fun k hk => setRow_other w1 q k _ (by omega)⟩, by
        have := HJ.out
        rwa [List.take_of_length_le (by rw [HK.out.1]; exact Nat.le_refl _)] at this⟩
      have HON : Hid ((#[.int .u8 0, .string ⟨#[]⟩, .slice none 0 0, .slice none 0 0, .slice none 0 0, .int .u8 0, .string ⟨#[]⟩, .int .i64 0, .slice none 0 0, .int .u8 0, .string ⟨#[]⟩, .int .i64 0, .string ⟨#[]⟩, .slice none 0 0, .slice none 0 0, .slice none 0 0] : Array Value).all (·.oneCell') = true) := Lib.hid (by simp [Value.oneCell'])
      have HB7 : Hid ((w1.setRow q #[.int .u8 0, .string ⟨#[]⟩, .slice none 0 0, .slice none 0 0, .slice none 0 0, .int .u8 0, .string ⟨#[]⟩, .int .i64 0, .slice none 0 0, .int .u8 0, .string ⟨#[]⟩, .int .i64 0, .string ⟨#[]⟩, .slice none 0 0, .slice none 0 0, .slice none 0 0]).heap[q]? = some (.cells #[.int .u8 0, .string ⟨#[]⟩, .slice none 0 0, .slice none 0 0, .slice none 0 0, .int .u8 0, .string ⟨#[]⟩, .int .i64 0, .slice none 0 0, .int .u8 0, .string ⟨#[]⟩, .int .i64 0, .string ⟨#[]⟩, .slice none 0 0, .slice none 0 0, .slice none 0 0] 42 (0, 0))) := Lib.hid (setRow_heap w1 q _ _ 42 (0, 0) HK.out.2.2.2)
      go_wp2_with (refine wpList_store_row rfl 42 (.tmp 4) (.tmp 32) rfl q #[.int .u8 0, .string ⟨#[]⟩, .slice none 0 0, .slice none 0 0, .slice none 0 0, .int .u8 0, .string ⟨#[]⟩, .int .i64 0, .slice none 0 0, .int .u8 0, .string ⟨#[]⟩, .int .i64 0, .string ⟨#[]⟩, .slice none 0 0, .slice none 0 0, .slice none 0 0] rfl rfl 42 _ HK.out.2.2.2 dec16 rfl HON.out ?_)
      (try simp only [Exit.inBlock, Exit.then])
      refine bodyPost_ret (results_cell_tmp_row rfl _ _ q 42 _ (0, 0) _ rfl HB7.out Tryz.underlying42 rfl dec16) rfl ?_
      exact ⟨⟨zDc, by rw [HP.out.2] <;> rfl⟩, HP.out.1⟩
end Go.Proofs.YtadogebhkldeiaaGreatDoor
