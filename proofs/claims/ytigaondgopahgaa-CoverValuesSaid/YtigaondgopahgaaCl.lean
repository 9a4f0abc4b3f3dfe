/- cover: Check. -/
import Derived.Test.YtigaondgopahgaaCk
namespace Go.Proofs.Ytigaondgopahgaa
open Go.RowKit Ty
set_option linter.unusedVariables false
set_option linter.unusedSimpArgs false
attribute [local go_sem] Oper.semAt_some
/-- What Check answers. -/
def errOf (n : Nat) : Int := if n = 1 then 16 else if n = 2 then 12 else if n = 3 then 13 else if n = 4 then 14 else 0
theorem CkI.next {w wr w5 : World} {base b1 b2 qa : Nat} {l : List Inf} {i : Inf} (h : CkI w wr base b1 b2 qa l) (p m : Int) (hb5 : Below wr.heap.size wr w5) (hi : (inf l i.nm).isSome = false) (hnm : i.nm.length ≤ maxLen) (hof : i.of.length ≤ maxLen) (hl : l.length ≤ 1000) :
    ∃ w6, (Instr.mapUpdate 54 (.map (some b1)) (.string (str i.nm)) (infV i p m)).run Try.prog w5 = .ok () w6 ∧ Off (fun k => k = b1) w5 w6 ∧ ∀ w7, w6.drew.alloc (.cells #[.string (str i.nm)] 9) = w7 →
      ∃ A c v' w8 w9, (∀ W, Off (fun k => k = b1) wr W → (Instr.lookup 55 (.map (some b2)) (.string (str i.of)) false).run Try.prog W = .ok (.slice A (manyOf l i.of) c) W) ∧
        (Builtin.append_ #[59, 59] 59 #[.slice A (manyOf l i.of) c, .slice (some ⟨w6.heap.size, 0, none⟩) 1 1]).run Try.prog w7 = .ok v' w8 ∧
        (Instr.mapUpdate 55 (.map (some b2)) (.string (str i.of)) v').run Try.prog w8 = .ok () w9 ∧ CkI w w9 base b1 b2 qa (l ++ [i]) ∧ Off (fun k => base ≤ k ∧ k < wr.heap.size) w7 w8 ∧ Off (fun k => k = b2 ∨ (base ≤ k ∧ k < wr.heap.size)) w7 w9 := by
  obtain ⟨h1, ⟨n, hn, h2⟩, h3, h4, h5, h6, h7, h8, h9⟩ := h
  obtain ⟨w6, hu1, ho6, hpf⟩ := (h2.bel hb5).put1 i p m hi hnm (by omega)
  refine ⟨w6, hu1, ho6, fun w7 hw7 => ?_⟩
  have hb7 : Below w6.drew.heap.size w6.drew w7 := by rw [← hw7]; exact (Below.refl _ _).alloc (Nat.le_refl _) _
  have hB7 : Blk w7 w6.drew.heap.size 9 #[.string (str i.nm)] := by rw [← hw7]; exact Blk.new _ _ _
  have ho1 : Off (fun k => k = b1) wr w6.drew := (((Off.of_new hb5 _).then ho6 fun k _ e => e)).trans (Off.drew _ _)
  have hpf2 : ∃ pf : List UInt8 → Int × Int, SMap w6.drew b1 (n + 1) (fun s => (inf (l ++ [i]) s).map fun i => infV i (pf s).1 (pf s).2) := by
    obtain ⟨pf, hp⟩ := hpf
    exact ⟨pf, hp.same rfl⟩
  have hml : manyOf l i.of < 1000000 := by
    have key : ∀ n, n ≤ l.length → (firsts (l.take n)).length ≤ n := by
      intro n
      induction n with
      | zero => intro _; rw [List.take_zero]; exact Nat.le_refl _
      | succ n ih =>
        intro hn
        have h1 := ih (by omega)
        rw [List.take_add_one, List.getElem?_eq_getElem (by omega)]
        show (firsts (l.take n ++ [_])).length ≤ _
        rw [firsts_snoc]
        split
        · omega
        · rw [List.length_append]; simp; omega
    have := key l.length (Nat.le_refl _)
    rw [List.take_length] at this
    unfold manyOf
    have h2 := List.length_filter_le (fun j : Inf => j.of == i.of) (firsts l)
    omega
  obtain ⟨A, c, v', w8, w9, hl1, hr, hu2, hA, ho3, ho4⟩ := h2.put2 i hi ho1 hpf2 hb7 hB7 hof (by omega) hml
  have hq5 : qa < wr.heap.size := h3.lt
  have hblk7 : Blk w7 qa 57 #[.map (some b1), .map (some b2)] := (h3.off ho1 h7).below hb7 ((h3.off ho1 h7).lt)
  have hs1 := h1.size
  have hbl7 : Below w.heap.size w w7 := (h1.trans (ho1.below (B := w.heap.size) hs1 (fun k e => by omega))).trans (hb7.mono (by have := ho1.size; omega))
  have hbs : w.heap.size ≤ base := by omega
  refine ⟨A, c, v', w8, w9, hl1, hr, hu2, ⟨hbl7.trans (ho4.below (B := w.heap.size) hbl7.size (fun k e => by omega)), ⟨n + 1, by rw [List.length_append]; simp; omega, hA⟩, hblk7.off ho4 (by omega), h4, h5, h6, h7, h8, h9⟩, ho3, ho4⟩
/-- How far the second loop of Check has come. -/
structure ChI (w wr : World) (l : List Inf) (ps : List Ty) (i : Nat) (rv : Value) (es : List Re) : Prop where
  bel : Below w.heap.size w wr
  own : RwO w.heap.size wr rv es
  is : es.map Re.ts = (ps.take i).map fun p => [p]
  each : eachOf l [] (ps.take i) = true
set_option maxRecDepth 20000 in
set_option maxHeartbeats 16000000 in
theorem check_any {F : Nat → Prop} (ps : List Ty) (A : Option Addr) (n c : Nat) (xs : List InfX) (B : Option Addr) (m d : Nat) (whole : Bool) (w : World) (hP : PAt Everywhere w A n c ps) (hI : IAt F w B m d xs) (hm : m ≤ 1000) :
    Calls Try.prog 11 #[.slice A n c, .slice B m d, .bool whole] w fun e w' => e = .returned (.int .i64 (errOf (told (xs.map InfX.i) ps whole))) ∧ Below w.heap.size w w' := by
  have hC := count_any (F := Everywhere) (.node 0 [] 0 ps) A c 0 w hP.at_ (by show ps.length ≤ c; rw [hP.len]; exact hP.le) hP.cap (by omega)
  change Calls Try.prog 20 #[.slice A ps.length c, .int .i64 ((0 : Nat) : Int)] w _ at hC
  rw [hP.len] at hC
  replace hC := Lib.hid hC
  have hmmx : m ≤ 9223372036854775807 := by omega
  have HA := Lib.hid (And.intro hP hI)
  have hmm := @run_makeMap Try.prog
  clear hP hI
  go_enter Try.func11, Try.ntmps11
  go_wp2_with fail
  refine hC.out.mono ?_
  rintro e w1 ⟨nc, rfl, hnc, hb1⟩
  clear hC
  by_cases h200 : nc > 200
  · have hg : decide ((nc : Int) > 200) = true := by simp; omega
    have hg2 : decide ((200 : Int) < (nc : Int)) = true := by simp; omega
    have hps : 200 < partss ps := by
      rcases hnc with ⟨h1, h2⟩ | ⟨h1, h2, h3⟩
      · omega
      · have : partss (Ty.node 0 [] 0 ps).ks = partss ps := rfl
        omega
    have HV : Hid (told (xs.map InfX.i) ps whole = 1 ∧ Below w.heap.size w w1) := Lib.hid ⟨by unfold told; rw [if_pos hps], hb1⟩
    clear hnc hb1 hps
    go_wp2_with fail
    go_ret
    exact ⟨by rw [HV.out.1] <;> rfl, HV.out.2⟩
  have hg : decide ((nc : Int) > 200) = false := by simp; omega
  have hg2 : decide ((200 : Int) < (nc : Int)) = false := by simp; omega
  have hps : ¬ 200 < partss ps := by
    rcases hnc with ⟨h1, h2⟩ | ⟨h1, h2, h3⟩
    · have : partss (Ty.node 0 [] 0 ps).ks = partss ps := rfl
      omega
    · omega
  obtain ⟨w4, hw4⟩ : ∃ w4, ((w1.alloc (.map #[] 0)).alloc (.map #[] 0)).alloc (.cells #[.map (some w1.heap.size), .map (some (w1.heap.size + 1))] 57) = w4 := ⟨_, rfl⟩
  have hC0 := CkI.start hb1 rfl rfl (show ((w1.alloc (.map #[] 0)).alloc (.map #[] 0)).alloc (.cells #[.map (some w1.heap.size), .map (some (w1.alloc (.map #[] 0)).heap.size)] 57) = w4 by rw [World.size_alloc]; exact hw4)
  rw [World.size_alloc, World.size_alloc] at hC0
  have HPS := Lib.hid hps
  obtain ⟨bb, hbb⟩ : ∃ b, w1.heap.size = b := ⟨_, rfl⟩
  rw [hbb] at hC0 hw4
  have HC := Lib.hid hC0
  clear hnc hb1 hps h200 hC0
  go_upto_region 4 with fail
  (try rw [hbb])
  (try rw [hw4])
  clear hw4 hmm hbb
  go_wp2_with fail
  go_loopw [23] (fun iv wr => ∃ i : Nat, i ≤ m ∧ iv = .int .i64 (i : Int) ∧ Hid (CkI w wr (bb + 1 + 1 + 1) bb (bb + 1) (bb + 1 + 1) ((xs.take i).map InfX.i))) (fun iv _ => m - (intOf iv).toNat)
  case atStart => exact ⟨0, Nat.zero_le _, rfl, HC⟩
  case round =>
    clear HC
    obtain ⟨i, hi, rfl, hX⟩ := hrel
    obtain ⟨wo, rfl⟩ : ∃ wo : World, wo = wr := ⟨_, rfl⟩
    by_cases hli : i < m
    · have hd : decide ((i : Int) < (m : Int)) = true := by simpa using hli
      obtain ⟨x, hx⟩ : ∃ x, xs[i]? = some x := ⟨_, List.getElem?_eq_getElem (by rw [HA.out.2.len]; exact hli)⟩
      obtain ⟨b, off, rfl, _, hbl, hcl, hnm, hof⟩ := (HA.out.2.bel hX.out.bel).at_ i x hx
      have z0 := hcl 0 _ rfl
      have z1 := hcl 1 _ rfl
      have z2 := hcl 2 _ rfl
      have z3 := hcl 3 _ rfl
      have z4 := hcl 4 _ rfl
      rw [Nat.add_zero] at z0
      have htk : (xs.take (i + 1)).map InfX.i = (xs.take i).map InfX.i ++ [x.i] := by rw [List.take_add_one, hx, List.map_append]; rfl
      have hll : ((xs.take i).map InfX.i).length ≤ 1000 := by rw [List.length_map, List.length_take]; omega
      obtain ⟨l, hl⟩ : ∃ l, (xs.take i).map InfX.i = l := ⟨_, rfl⟩
      rw [hl] at hX htk hll
      obtain ⟨w5, hw5⟩ : ∃ w5, wo.alloc (.cells #[.string (str x.i.nm), .string (str x.i.of), .int .i64 x.p, .int .i64 x.m, .bool x.i.has] 30) = w5 := ⟨_, rfl⟩
      have hb5 : Below wo.heap.size wo w5 := by rw [← hw5]; exact (Below.refl _ _).alloc (Nat.le_refl _) _
      have hB5 : Blk w5 wo.heap.size 30 #[.string (str x.i.nm), .string (str x.i.of), .int .i64 x.p, .int .i64 x.m, .bool x.i.has] := by rw [← hw5]; exact Blk.new _ _ _
      have hQ5 := hX.out.box.below hb5 hX.out.box.lt
      obtain ⟨nn, _, hAB⟩ := hX.out.ask
      obtain ⟨s1, s2, pp, mm, hb, hlk⟩ := (hAB.ask.bel hb5).look2' x.i.nm hnm
      have a0 := hQ5.cell 0
      have y0 := hB5.cell 0
      simp only [List.getElem?_toArray, List.getElem?_cons_zero, List.getElem?_cons_succ] at a0 y0
      obtain ⟨w6, hw6⟩ : ∃ w6, w5.alloc (.cells #[.string s1, .string s2, .int .i64 pp, .int .i64 mm, .bool hb] 30) = w6 := ⟨_, rfl⟩
      have hb6 : Below w5.heap.size w5 w6 := by rw [← hw6]; exact (Below.refl _ _).alloc (Nat.le_refl _) _
      obtain ⟨is, his⟩ : ∃ is, (inf l x.i.nm).isSome = is := ⟨_, rfl⟩
      rw [his] at hlk
      have hb56 : Below wo.heap.size wo w6 := hb5.trans (hb6.mono hb5.size)
      have HX6 := Lib.hid (And.intro hb56 (And.intro (hB5.below hb6 hB5.lt) (hQ5.below hb6 hQ5.lt)))
      have HTK := Lib.hid (And.intro htk (And.intro hll (And.intro hnm hof)))
      have HIS := Lib.hid his
      have hs5 : w5.heap.size = wo.heap.size + 1 := by rw [← hw5]; simp
      have HW6 := Lib.hid hw6
      clear hx hbl hcl htk hll hl hb5 hB5 hQ5 hAB hb6 hb56 his hnm hof hw6
      go_upto_region 7 with fail
      (try rw [hw5])
      (try simp only [hs5])
      clear hw5 z0 z1 z2 z3 z4
      go_upto_region 8 with fail
      (try rw [HW6.out])
      clear hlk a0 y0 HW6
      cases is with
      | true =>
        have HN : Hid (CkI w w6 (bb + 1 + 1 + 1) bb (bb + 1) (bb + 1 + 1) ((xs.take (i + 1)).map InfX.i)) := Lib.hid (by
          rw [HTK.out.1]
          have h := hX.out.bel' HX6.out.1
          obtain ⟨n, hn, h2⟩ := h.ask
          exact { h with ask := ⟨n, by rw [List.length_append]; omega, h2.old HIS.out⟩ })
        clear hX
        go_wp2_with fail
        go_roundw
        case rel => exact ⟨i + 1, by omega, by go_num, HN⟩
        case measure => simp [intOf]; omega
      | false =>
        obtain ⟨w7, hup, ho7, hrest⟩ := hX.out.next x.p x.m HX6.out.1 HIS.out HTK.out.2.2.1 HTK.out.2.2.2 HTK.out.2.1
        obtain ⟨w8, hw8⟩ : ∃ w8, w7.drew.alloc (.cells #[.string (str x.i.nm)] 9) = w8 := ⟨_, rfl⟩
        obtain ⟨Ag, cg, v', w9, w10, hlk, hap, hu2, hN, ho9, ho10⟩ := hrest w8 hw8
        have hB6 := HX6.out.2.1
        have hQ6 := HX6.out.2.2
        have a0 := hQ6.cell 0
        have y0 := hB6.cell 0
        have y1 := hB6.cell 1
        have y2 := hB6.cell 2
        have y3 := hB6.cell 3
        have y4 := hB6.cell 4
        simp only [List.getElem?_toArray, List.getElem?_cons_zero, List.getElem?_cons_succ] at a0 y0 y1 y2 y3 y4
        have hq7 := hQ6.off ho7 (by omega)
        have hn7 : wo.heap.size ≠ bb := by have := hX.out.box.lt; omega
        have hi7 := hB6.off ho7 hn7
        have hXX : ∀ (W : World), W.heap[bb + 1 + 1]? = w7.heap[bb + 1 + 1]? → W.heap[wo.heap.size]? = w7.heap[wo.heap.size]? → W.cell? ⟨bb + 1 + 1, 1, none⟩ = some (.map (some (bb + 1))) ∧ W.cell? ⟨wo.heap.size, 0, none⟩ = some (.string (str x.i.nm)) ∧ W.cell? ⟨wo.heap.size, 1, none⟩ = some (.string (str x.i.of)) := fun W h1 h2 => ⟨(hq7.same h1).cell 1, (hi7.same h2).cell 0, (hi7.same h2).cell 1⟩
        have hbd8 : Below w7.drew.heap.size w7.drew w8 := by rw [← hw8]; exact (Below.refl _ _).alloc (Nat.le_refl _) _
        have e81 : w8.heap[bb + 1 + 1]? = w7.heap[bb + 1 + 1]? := hbd8.block _ hq7.lt
        have e82 : w8.heap[wo.heap.size]? = w7.heap[wo.heap.size]? := hbd8.block _ hi7.lt
        have hqlt := hX.out.box.lt
        have hs8 := hbd8.size
        have hq8 : bb + 1 + 1 < w8.heap.size := Nat.lt_of_lt_of_le hq7.lt hs8
        have hi8 : wo.heap.size < w8.heap.size := Nat.lt_of_lt_of_le hi7.lt hs8
        have e91 : w9.heap[bb + 1 + 1]? = w7.heap[bb + 1 + 1]? := (ho9.block _ hq8 (by omega)).trans e81
        have e92 : w9.heap[wo.heap.size]? = w7.heap[wo.heap.size]? := (ho9.block _ hi8 (by omega)).trans e82
        have ea1 : w10.heap[bb + 1 + 1]? = w7.heap[bb + 1 + 1]? := (ho10.block _ hq8 (by omega)).trans e81
        have ea2 : w10.heap[wo.heap.size]? = w7.heap[wo.heap.size]? := (ho10.block _ hi8 (by omega)).trans e82
        have HS7 := Lib.hid (hXX w7.drew rfl rfl)
        have HS8 := Lib.hid (hXX w8 e81 e82)
        have HS9 := Lib.hid (hXX w9 e91 e92)
        have HS10 := Lib.hid (hXX w10 ea1 ea2)
        have ho07 : Off (fun k => k = bb) wo w7.drew := ((Off.of_new HX6.out.1 _).then ho7 fun k _ e => e).trans (Off.drew _ _)
        have hlkA := hlk w7.drew ho07
        have hlkB := hlk w8 (ho07.then (Off.of_new hbd8 _) fun k _ e => e)
        have HN2 : Hid (CkI w w10 (bb + 1 + 1 + 1) bb (bb + 1) (bb + 1 + 1) ((xs.take (i + 1)).map InfX.i)) := Lib.hid (by rw [HTK.out.1]; exact hN)
        have HLK := Lib.hid (And.intro hlkA (And.intro hlkB (And.intro hap (And.intro hu2 hw8))))
        unfold infV at hup
        clear hXX hbd8 e81 e82 e91 e92 ea1 ea2 hqlt hs8 hq8 hi8 ho07 hlkA hlkB hN ho9 ho10 hlk hap hu2 hw8 hrest ho7 hB6 hQ6 hq7 hi7 hn7 hX
        go_upto_region 10 with fail
        clear hup a0 y0 y1 y2 y3 y4
        have hlkA := HLK.out.1
        have hlkB := HLK.out.2.1
        have hw8 := HLK.out.2.2.2.2
        have hu2 := HLK.out.2.2.2.1
        go_region_held3 (fun W => W.cell? ⟨bb + 1 + 1, 1, none⟩ = some (.map (some (bb + 1))) ∧ W.cell? ⟨wo.heap.size, 0, none⟩ = some (.string (str x.i.nm)) ∧ W.cell? ⟨wo.heap.size, 1, none⟩ = some (.string (str x.i.of)))
          (first | exact HS7.out | exact HS8.out | exact HS9.out | exact HS10.out)
          (first | (refine step_app rfl (.tmp 50) (.tmp 53) 59 rfl _ _ _ _ (by simp [Act.eval]) (by simp [Act.eval]) HLK.out.2.2.1 ?_))
        all_goals
          clear hlkA hlkB hw8 hu2
          go_wp2_with fail
          go_roundw
          case rel => exact ⟨i + 1, by omega, by go_num, HN2⟩
          case measure => simp [intOf]; omega
    · obtain rfl : i = m := by omega
      have hd : decide ((i : Int) < (i : Int)) = false := by simp
      rw [List.take_of_length_le (by rw [HA.out.2.len]; exact Nat.le_refl _)] at hX
      obtain ⟨l, hl⟩ : ∃ l, xs.map InfX.i = l := ⟨_, rfl⟩
      rw [hl] at hX
      have HLL := Lib.hid hl
      have HOF : Hid (∀ s, (ofOf l s).length ≤ maxLen) := Lib.hid fun s => by rw [← hl]; exact ofOf_len HA.out.2 s
      clear hl
      obtain ⟨en, _, hAB⟩ := hX.out.ask
      have HAS := Lib.hid hAB.ask
      have HX := Lib.hid (And.intro hX.out.bel (And.intro hX.out.box hX.out.lo3))
      obtain ⟨qa, hqa⟩ : ∃ qa, bb + 1 + 1 = qa := ⟨_, rfl⟩
      rw [hqa] at HX ⊢
      clear hAB hX hqa
      have a0 := HX.out.2.1.cell 0
      have a1 := HX.out.2.1.cell 1
      simp only [List.getElem?_toArray, List.getElem?_cons_zero, List.getElem?_cons_succ] at a0 a1
      obtain ⟨nv, hnv⟩ : ∃ nv, nameds l ps = nv := ⟨_, rfl⟩
      have hNC := named_any (F := Everywhere) (l := l) (b1 := bb) (b2 := bb + 1) (en := en) (.node 0 [] 0 ps) A c wo (HA.out.1.bel HX.out.1).at_ (by show ps.length ≤ c; rw [HA.out.1.len]; exact HA.out.1.le) HA.out.1.cap HAS.out
      change Calls Try.prog 21 #[.agg #[.map (some bb), .map (some (bb + 1))], .slice A ps.length c] wo (fun e w' => e = .returned (.bool (nameds l ps)) ∧ Below wo.heap.size wo w') at hNC
      rw [HA.out.1.len, hnv] at hNC
      replace hNC := Lib.hid hNC
      have HNV := Lib.hid hnv
      clear hnv
      go_wp2_with fail
      refine hNC.out.mono ?_
      rintro e w5 ⟨rfl, hb5⟩
      have HB5 := Lib.hid hb5
      clear hNC hb5 a0 a1
      cases nv with
      | false =>
        have HV : Hid (told (xs.map InfX.i) ps whole = 2 ∧ Below w.heap.size w w5) := Lib.hid ⟨by unfold told; rw [if_neg HPS.out, HLL.out, HNV.out]; rfl, HX.out.1.trans (HB5.out.mono HX.out.1.size)⟩
        go_wp2_with fail
        go_ret
        exact ⟨by rw [HV.out.1] <;> rfl, HV.out.2⟩
      | true =>
        have HQ5 := Lib.hid (HX.out.2.1.below HB5.out HX.out.2.1.lt)
        have a0 := HQ5.out.cell 0
        have a1 := HQ5.out.cell 1
        simp only [List.getElem?_toArray, List.getElem?_cons_zero, List.getElem?_cons_succ] at a0 a1
        obtain ⟨fv, hfv⟩ : ∃ fv, fit l ps = fv := ⟨_, rfl⟩
        have hFC := fit_any (l := l) (b1 := bb) (b2 := bb + 1) (en := en) 1000 (by omega) ps A n c w5 (by have := HPS.out; omega) ((HA.out.1.bel HX.out.1).bel HB5.out) (HAS.out.bel HB5.out)
        rw [hfv] at hFC
        replace hFC := Lib.hid hFC
        have HFV := Lib.hid hfv
        clear hfv
        go_wp2_with fail
        refine hFC.out.mono ?_
        rintro e w6 ⟨rfl, hb6⟩
        have HB6 := Lib.hid (HX.out.1.trans ((HB5.out.trans (hb6.mono HB5.out.size)).mono HX.out.1.size))
        have HQ6 := Lib.hid (HQ5.out.below hb6 HQ5.out.lt)
        have HAS6 := Lib.hid ((HAS.out.bel HB5.out).bel hb6)
        clear hFC hb6 a0 a1
        cases fv with
        | false =>
          have HV : Hid (told (xs.map InfX.i) ps whole = 3 ∧ Below w.heap.size w w6) := Lib.hid ⟨by unfold told; rw [if_neg HPS.out, HLL.out, HNV.out, HFV.out]; rfl, HB6.out⟩
          go_wp2_with fail
          go_ret
          exact ⟨by rw [HV.out.1] <;> rfl, HV.out.2⟩
        | true =>
          have HTD : Hid (told (xs.map InfX.i) ps whole = if !eachOf l [] ps then 4 else if whole && useful l (ps.map fun p => [p]) [any] then 4 else 0) := Lib.hid (by rw [HLL.out]; exact told_of (by have := HPS.out; omega) HNV.out HFV.out whole)
          have hnle : n ≤ 200 := by have h1 := partss_len ps; have := HPS.out; have := HA.out.1.len; omega
          have hnmx : n ≤ 9223372036854775807 := by omega
          clear HNV HFV HLL hg hg2 hd
          go_wp2_with fail
          go_loopw [12, 68] (fun rv iv wr => ∃ (j : Nat) (es : List Re) (Al : Option Addr) (cl : Nat), j ≤ n ∧ iv = .int .i64 (j : Int) ∧ rv = .slice Al es.length cl ∧ Hid (ChI w6 wr l ps j (.slice Al es.length cl) es)) (fun _ iv _ => n - (intOf iv).toNat)
          case atStart => exact ⟨0, [], none, 0, Nat.zero_le _, rfl, rfl, Lib.hid ⟨Below.refl _ _, RwO.nil _ _, by rw [List.take_zero]; rfl, by rw [List.take_zero]; rfl⟩⟩
          case round =>
            obtain ⟨j, es, Al, cl, hj, rfl, rfl, hY⟩ := hrel
            obtain ⟨wj, rfl⟩ : ∃ wj : World, wj = wr := ⟨_, rfl⟩
            obtain ⟨el, hel⟩ : ∃ el, es.length = el := ⟨_, rfl⟩
            rw [hel] at hY ⊢
            by_cases hlj : j < n
            · have hdj : decide ((j : Int) < (n : Int)) = true := by simpa using hlj
              obtain ⟨p, hp⟩ : ∃ t, ps[j]? = some t := ⟨_, List.getElem?_eq_getElem (by rw [HA.out.1.len]; exact hlj)⟩
              have hwj : Below w.heap.size w wj := HB6.out.trans (hY.out.bel.mono HB6.out.size)
              obtain ⟨b, off, A', c', rfl, _, hbl, z0', z1', z2', z3', hok, hlc, hcm, hAt6⟩ := (HA.out.1.bel HB6.out).at_.get hp
              have z0 := (hY.out.bel.cell (p := ⟨b, _, none⟩) hbl).trans z0'
              have z1 := (hY.out.bel.cell (p := ⟨b, _, none⟩) hbl).trans z1'
              have z2 := (hY.out.bel.cell (p := ⟨b, _, none⟩) hbl).trans z2'
              have z3 := (hY.out.bel.cell (p := ⟨b, _, none⟩) hbl).trans z3'
              clear z0' z1' z2' z3'
              obtain ⟨tl, htl⟩ : ∃ tl, p.ks.length = tl := ⟨_, rfl⟩
              rw [htl] at z3
              obtain ⟨w7, hw7⟩ : ∃ w7, wj.alloc (.cells #[.int .u8 (p.k : Int), .string (str p.nm), .int .i64 p.n, .slice A' tl c'] 40) = w7 := ⟨_, rfl⟩
              have hb7 : Below wj.heap.size wj w7 := by rw [← hw7]; exact (Below.refl _ _).alloc (Nat.le_refl _) _
              have hB7 : Blk w7 wj.heap.size 40 #[.int .u8 (p.k : Int), .string (str p.nm), .int .i64 p.n, .slice A' tl c'] := by rw [← hw7]; exact Blk.new _ _ _
              obtain ⟨w8, hw8⟩ : ∃ w8, w7.alloc (.cells #[.int .u8 (p.k : Int), .string (str p.nm), .int .i64 p.n, .slice A' tl c'] 40) = w8 := ⟨_, rfl⟩
              have hb8 : Below w7.heap.size w7 w8 := by rw [← hw8]; exact (Below.refl _ _).alloc (Nat.le_refl _) _
              have hB8 : Blk w8 w7.heap.size 40 #[.int .u8 (p.k : Int), .string (str p.nm), .int .i64 p.n, .slice A' tl c'] := by rw [← hw8]; exact Blk.new _ _ _
              have hQ7 := (HQ6.out.below hY.out.bel HQ6.out.lt).below hb7 (HQ6.out.below hY.out.bel HQ6.out.lt).lt
              have a0 := hQ7.cell 0
              have a1 := hQ7.cell 1
              have y0 := hB7.cell 0
              have y1 := hB7.cell 1
              have y2 := hB7.cell 2
              have y3 := hB7.cell 3
              simp only [List.getElem?_toArray, List.getElem?_cons_zero, List.getElem?_cons_succ] at a0 a1 y0 y1 y2 y3
              have h68 : Below w6.heap.size w6 w8 := hY.out.bel.trans ((hb7.trans (hb8.mono hb7.size)).mono hY.out.bel.size)
              obtain ⟨uv, huv⟩ : ∃ uv, useful l ((ps.take j).map fun p => [p]) [p] = uv := ⟨_, rfl⟩
              obtain ⟨A2, c2, e2, hRA⟩ := ((hY.out.own.below hb7).below hb8).shape
              injection e2 with e3 e4 e5
              rw [hY.out.is, hel, ← e3, ← e5] at hRA
              have hUC := use_any (l := l) (b1 := bb) (b2 := bb + 1) (en := en) HOF.out 50000 (Nat.le_refl _) ((ps.take j).map fun p => [p]) [p] Al el cl (some ⟨w7.heap.size, 0, none⟩) 1 1 w8 (by
                rw [wtss_single]
                have h1 := wts_le (ps.take j)
                have h2 := partss_take_le ps j
                have h3 := wts_le [p]
                have h4 := partss_mem (List.mem_of_getElem? hp)
                have h5 : partss [p] = parts p := by rw [partss, partss, Nat.add_zero]
                have := HPS.out
                simp only [List.length_cons, List.length_nil]
                omega) hRA ⟨rfl, Nat.le_refl _, by decide, At_single hB8 htl ((hAt6.bel h68).mono fun _ _ => trivial) hok hlc hcm trivial⟩ (fun r hr => by
                obtain ⟨x, _, rfl⟩ := List.mem_map.1 hr
                rfl) (HAS6.out.bel h68) (by rw [← hRA.len, List.length_map, List.length_take]; omega)
              rw [huv] at hUC
              replace hUC := Lib.hid hUC
              have HPP := Lib.hid (And.intro hp (And.intro huv (And.intro htl (And.intro hok (And.intro hlc (And.intro hcm hAt6))))))
              have HB78 := Lib.hid (And.intro (hb7.trans (hb8.mono hb7.size)) (And.intro (hB7.below hb8 hB7.lt) hwj))
              have HW8 := Lib.hid hw8
              clear hp huv htl hok hlc hcm hAt6 hb7 hB7 hb8 hB8 hQ7 h68 hRA e3 e4 e5 hwj hbl hw8
              go_upto_region 20 with fail
              (try rw [hw7])
              clear hw7 z0 z1 z2 z3
              have hw8 := HW8.out
              go_wp2_with fail
              refine hUC.out.mono ?_
              rintro e w9 ⟨rfl, hb9⟩
              clear hUC a0 a1 y0 y1 y2 y3 hw8 HW8
              have HB9 := Lib.hid (And.intro (HB78.out.1.trans (hb9.mono HB78.out.1.size)) (HB78.out.2.1.below hb9 HB78.out.2.1.lt))
              clear hb9
              cases uv with
              | false =>
                have HV : Hid (told (xs.map InfX.i) ps whole = 4 ∧ Below w.heap.size w w9) := Lib.hid ⟨by
                  have h1 := each_snoc (l := l) HPP.out.1
                  rw [HPP.out.2.1, Bool.and_false] at h1
                  rw [HTD.out, each_prefix h1]; rfl, HB78.out.2.2.trans (HB9.out.1.mono HB78.out.2.2.size)⟩
                clear hY
                go_wp2_with fail
                go_ret
                exact ⟨by rw [HV.out.1] <;> rfl, HV.out.2⟩
              | true =>
                obtain ⟨w10, hw10⟩ : ∃ w10, w9.alloc (.cells #[.int .u8 (p.k : Int), .string (str p.nm), .int .i64 p.n, .slice A' tl c'] 40) = w10 := ⟨_, rfl⟩
                have hb10 : Below w9.heap.size w9 w10 := by rw [← hw10]; exact (Below.refl _ _).alloc (Nat.le_refl _) _
                have hB10 : Blk w10 w9.heap.size 40 #[.int .u8 (p.k : Int), .string (str p.nm), .int .i64 p.n, .slice A' tl c'] := by rw [← hw10]; exact Blk.new _ _ _
                obtain ⟨w11, hw11⟩ : ∃ w11, w10.alloc (.cells #[.slice (some ⟨w9.heap.size, 0, none⟩) 1 1] 22) = w11 := ⟨_, rfl⟩
                have hb11 : Below w10.heap.size w10 w11 := by rw [← hw11]; exact (Below.refl _ _).alloc (Nat.le_refl _) _
                have hB11 : Blk w11 w10.heap.size 22 #[.slice (some ⟨w9.heap.size, 0, none⟩) 1 1] := by rw [← hw11]; exact Blk.new _ _ _
                have hs10 : w10.heap.size = w9.heap.size + 1 := by rw [← hw10]; simp
                have hj11 : Below wj.heap.size wj w11 := HB9.out.1.trans ((hb10.trans (hb11.mono hb10.size)).mono HB9.out.1.size)
                have h611 : Below w6.heap.size w6 w11 := hY.out.bel.trans (hj11.mono hY.out.bel.size)
                have hes : es.length < 1000000 := by have h1 := congrArg List.length hY.out.is; rw [List.length_map, List.length_map, List.length_take] at h1; omega
                have hO := hY.out.own.below hj11
                obtain ⟨v', w12, hrun, hO2, hgr⟩ := hO.push h611.size ⟨[p], some ⟨w9.heap.size, 0, none⟩, 1⟩ w10.heap.size hB11 (fun b => b < w6.heap.size ∨ wj.heap.size ≤ b) (fun b hb e => by
                  have h1 := hY.out.own.own.lt b e
                  omega) (At_single (hB10.below hb11 hB10.lt) HPP.out.2.2.1 ((HPP.out.2.2.2.2.2.2.bnd.off (Off.of_new h611 (fun _ => False)) (fun _ _ h => h)).mono fun b hb => .inl hb.2) HPP.out.2.2.2.1 HPP.out.2.2.2.2.1 HPP.out.2.2.2.2.2.1 (.inr HB9.out.1.size)) (Nat.le_refl _) (show 1 ≤ maxLen by decide) hes
                obtain ⟨A3, c3, rfl, _⟩ := hO2.shape
                rw [List.length_append, List.length_singleton, hel] at hrun hO2
                rw [hs10] at hrun
                have HN : Hid (ChI w6 w12 l ps (j + 1) (.slice A3 (el + 1) c3) (es ++ [⟨[p], some ⟨w9.heap.size, 0, none⟩, 1⟩])) := Lib.hid ⟨h611.trans (hO.bel hgr (Nat.le_refl _) h611.size), hO2, by
                  rw [List.map_append, hY.out.is, List.take_add_one, HPP.out.1, List.map_append]; rfl, by
                  rw [each_snoc HPP.out.1, hY.out.each, HPP.out.2.1]; rfl⟩
                have y0 := HB9.out.2.cell 0
                have y1 := HB9.out.2.cell 1
                have y2 := HB9.out.2.cell 2
                have y3 := HB9.out.2.cell 3
                simp only [List.getElem?_toArray, List.getElem?_cons_zero, List.getElem?_cons_succ] at y0 y1 y2 y3
                have HR := Lib.hid hrun
                have HW10 := Lib.hid hw10
                have HW11 := Lib.hid hw11
                have HS10 := Lib.hid hs10
                clear hb10 hB10 hb11 hB11 hj11 h611 hes hO hrun hO2 hgr hw10 hw11 hs10 hY
                go_upto_region 22 with fail
                have hw10 := HW10.out
                have hw11 := HW11.out
                have hs10 := HS10.out
                have hrun := HR.out
                go_wp2_with (at_builtin; refine wpList_app rfl _ _ 60 rfl _ _ _ _ rfl rfl hrun ?_)
                go_roundw
                case rel => exact ⟨j + 1, es ++ [⟨[p], some ⟨w9.heap.size, 0, none⟩, 1⟩], A3, c3, by omega, by go_num, by rw [List.length_append, List.length_singleton, hel], by rw [List.length_append, List.length_singleton, hel]; exact HN⟩
                case measure => simp [intOf]; omega
            · obtain rfl : j = n := by omega
              have hdj : decide ((j : Int) < (j : Int)) = false := by simp
              have htk : ps.take j = ps := List.take_of_length_le (by rw [HA.out.1.len]; exact Nat.le_refl _)
              have hEA := hY.out.each
              rw [htk] at hEA
              have hwj : Below w.heap.size w wj := HB6.out.trans (hY.out.bel.mono HB6.out.size)
              cases whole with
              | false =>
                have HV : Hid (told (xs.map InfX.i) ps false = 0 ∧ Below w.heap.size w wj) := Lib.hid ⟨by rw [HTD.out, hEA]; rfl, hwj⟩
                clear hY hEA hwj htk
                go_wp2_with fail
                go_ret
                exact ⟨by rw [HV.out.1] <;> rfl, HV.out.2⟩
              | true =>
                obtain ⟨w7, hw7⟩ : ∃ w7, wj.alloc (.cells #[.int .u8 1, .string ⟨#[]⟩, .int .i64 0, .slice none 0 0] 40) = w7 := ⟨_, rfl⟩
                have hb7 : Below wj.heap.size wj w7 := by rw [← hw7]; exact (Below.refl _ _).alloc (Nat.le_refl _) _
                have hB7 : Blk w7 wj.heap.size 40 #[.int .u8 1, .string ⟨#[]⟩, .int .i64 0, .slice none 0 0] := by rw [← hw7]; exact Blk.new _ _ _
                have hQj := HQ6.out.below hY.out.bel HQ6.out.lt
                have a0 := hQj.cell 0
                have a1 := hQj.cell 1
                simp only [List.getElem?_toArray, List.getElem?_cons_zero, List.getElem?_cons_succ] at a0 a1
                have h67 : Below w6.heap.size w6 w7 := hY.out.bel.trans (hb7.mono hY.out.bel.size)
                obtain ⟨uv, huv⟩ : ∃ uv, useful l (ps.map fun p => [p]) [any] = uv := ⟨_, rfl⟩
                obtain ⟨A2, c2, e2, hRA⟩ := (hY.out.own.below hb7).shape
                injection e2 with e3 e4 e5
                rw [hY.out.is, htk, hel, ← e3, ← e5] at hRA
                have hUC := use_any (l := l) (b1 := bb) (b2 := bb + 1) (en := en) HOF.out 50000 (Nat.le_refl _) (ps.map fun p => [p]) [any] Al el cl (some ⟨wj.heap.size, 0, none⟩) 1 1 w7 (by
                  rw [wtss_single]
                  have h1 := wts_le ps
                  have h3 := wts_le [any]
                  have h5 : partss [any] = 1 := rfl
                  have := HPS.out
                  simp only [List.length_cons, List.length_nil]
                  omega) hRA ⟨rfl, Nat.le_refl _, by decide, At_single (p := any) hB7 rfl (.nil _) ⟨by decide, by decide, by decide⟩ (Nat.le_refl _) (by decide) trivial⟩ (fun r hr => by
                  obtain ⟨x, _, rfl⟩ := List.mem_map.1 hr
                  rfl) (HAS6.out.bel h67) (by rw [← hRA.len, List.length_map]; have := HA.out.1.len; omega)
                rw [huv] at hUC
                replace hUC := Lib.hid hUC
                have HV : Hid (told (xs.map InfX.i) ps true = (if uv then 4 else 0) ∧ Below w.heap.size w w7) := Lib.hid ⟨by rw [HTD.out, hEA, huv]; simp, hwj.trans (hb7.mono hwj.size)⟩
                clear hY hEA hwj htk hb7 hB7 hQj h67 huv hRA e3 e4 e5
                go_wp2_with fail
                refine hUC.out.mono ?_
                rintro e w9 ⟨rfl, hb9⟩
                have HV2 := Lib.hid (HV.out.2.trans (hb9.mono HV.out.2.size))
                clear hUC a0 a1 hb9 hw7
                cases uv with
                | false =>
                  go_wp2_with fail
                  go_ret
                  exact ⟨by rw [HV.out.1] <;> rfl, HV2.out⟩
                | true =>
                  go_wp2_with fail
                  go_ret
                  exact ⟨by rw [HV.out.1] <;> rfl, HV2.out⟩
end Go.Proofs.Ytigaondgopahgaa
