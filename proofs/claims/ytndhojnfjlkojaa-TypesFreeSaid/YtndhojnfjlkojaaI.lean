/- types: twin. -/
import Derived.Test.YtndhojnfjlkojaaH
import Derived.Test.YtndhojnfjlkojaaTake
namespace Go.Proofs.Ytndhojnfjlkojaa
open Go.RowKit
set_option linter.unusedVariables false
set_option linter.unusedSimpArgs false
attribute [local go_sem] Oper.semAt_some
theorem step_app {P : Program} {ops : Array Oper} {o : Oper} {a : Act} {w : World} {K : Act → World → Prop} {Q : Exit → Act → World → Prop} {E : Prop} (hg : o.guard = none) (s x : Operand) (t : TypeId)
    (hop : o.op = Op.call { callee := Callee.builtin Builtin.append, args := #[s, x], argTypes := #[t, t] }) (v xv v' : Value) (w' : World) (hs : a.eval s = v) (hx : a.eval x = xv)
    (hrun : (Builtin.append_ #[t, t] o.type #[v, xv]).run P w = .ok v' w') (hK : K (a.put o.dst v') w') : if Region.wanted o (yielded ops a.tmps) = true then Oper.wp P o a w K Q else E := by
  rw [if_pos (show Region.wanted o (yielded ops a.tmps) = true by simp [Region.wanted, hg])]
  unfold Oper.wp execOp
  simp only [hop, resolve, invoke, builtin, Sem.run_bind, Sem.run_pure, Result.andThen_ok, List.map_toArray, List.map_cons, List.map_nil, hs, hx, hrun]
  exact hK
theorem Ty.partss_mem : ∀ {ts : List Ty} {t : Ty}, t ∈ ts → t.parts ≤ Ty.partss ts
  | [], _, h => by cases h
  | u :: ts, t, h => by
    rw [Ty.partss]
    rcases List.mem_cons.1 h with rfl | h
    · omega
    · have := Ty.partss_mem h; omega
theorem Ty.partss_len : ∀ (ts : List Ty), ts.length ≤ Ty.partss ts
  | [] => Nat.le_refl _
  | u :: ts => by
    have := Ty.partss_len ts
    have h1 : 1 ≤ u.parts := by cases u; rw [Ty.parts]; omega
    rw [List.length_cons, Ty.partss]
    omega
theorem TyO.set {B : Nat} {w : World} {v : Value} {es : List Te} (h : TyO B w v es) {g : Nat} (hg : g < B) (i : Nat) (u : Value) : TyO B (w.setCell ⟨g, i, none⟩ u) v es :=
  ⟨ownsRow_setCell_below h.own (a := ⟨g, i, none⟩) hg u, fun e he => ⟨((h.kids e he).1.off (Off.setc w g i u) (fun b hb e => by have := hb.1; omega)).mono fun b hb => ⟨hb.1, Nat.lt_of_lt_of_le hb.2.1 (Off.setc w g i u).size, hb.2.2⟩, (h.kids e he).2⟩⟩
theorem Blk.set4 {w : World} {g : Nat} {t : TypeId} {a0 a1 a2 a3 : Value} (h : Blk w g t #[a0, a1, a2, a3]) (v0 v1 v2 v3 : Value) : Blk ((((w.setCell ⟨g, 0, none⟩ v0).setCell ⟨g, 1, none⟩ v1).setCell ⟨g, 2, none⟩ v2).setCell ⟨g, 3, none⟩ v3) g t #[v0, v1, v2, v3] := by
  have := (((h.set_ 0 v0).set_ 1 v1).set_ 2 v2).set_ 3 v3
  simpa using this
theorem off4 (w : World) (g : Nat) (v0 v1 v2 v3 : Value) : Off (fun k => k = g) w ((((w.setCell ⟨g, 0, none⟩ v0).setCell ⟨g, 1, none⟩ v1).setCell ⟨g, 2, none⟩ v2).setCell ⟨g, 3, none⟩ v3) :=
  (((Off.setc _ _ _ _).trans (Off.setc _ _ _ _)).trans (Off.setc _ _ _ _)).trans (Off.setc _ _ _ _)
/-- A type of a call's own. -/
def TyR (w w' : World) (t : Ty) (A : Option Addr) (c : Nat) : Prop := t.ks.length ≤ c ∧ c ≤ maxLen ∧ Ty.At (fun b => w.heap.size ≤ b ∧ b < w'.heap.size) w' A t.ks ∧ Below w.heap.size w w'
/-- Between the rounds of twin. -/
structure TwI (w wr : World) (k : Nat) (nm : List UInt8) (n : Int) (A : Option Addr) (kl c : Nat) (ks : List Ty) (i : Nat) (v : Value) : Prop where
  box : Blk wr w.heap.size 24 #[.int .u8 (k : Int), .string (str nm), .int .i64 n, .slice A kl c]
  res : Blk wr (w.heap.size + 1) 24 #[.int .u8 0, .string ⟨#[]⟩, .int .i64 0, .slice none 0 0]
  x : Blk wr (w.heap.size + 2) 24 #[.int .u8 (k : Int), .string (str nm), .int .i64 n, v]
  bel : Below w.heap.size w wr
  row : ∃ es : List Te, es.map Te.t = ks.take i ∧ TyO (w.heap.size + 3) wr v es
theorem TwI.xl {w wr : World} {k : Nat} {nm : List UInt8} {n : Int} {A : Option Addr} {kl c : Nat} {ks : List Ty} {i : Nat} {v : Value} (h : TwI w wr k nm n A kl c ks i v) : w.heap.size + 2 < wr.heap.size := h.x.lt
set_option maxRecDepth 20000 in
set_option maxHeartbeats 8000000 in
theorem twin_any {F : Nat → Prop} : ∀ (t : Ty) (A : Option Addr) (c : Nat) (w : World), Ty.At F w A t.ks → t.ks.length ≤ c → c ≤ maxLen → t.parts ≤ 100000 →
    Calls Try.prog 10 #[t.val A c] w fun e w' => ∃ A' c', e = .returned (t.val A' c') ∧ t.ks.length ≤ c' ∧ c' ≤ maxLen ∧ Ty.At (fun b => w.heap.size ≤ b ∧ b < w'.heap.size) w' A' t.ks ∧ Below w.heap.size w w' := Ty.ind fun k nm n ks ih A c w hA hc hm hp => by
  have hA : Ty.At F w A ks := hA
  have hc : ks.length ≤ c := hc
  rw [Ty.parts] at hp
  have hkp := Ty.partss_len ks
  show Calls Try.prog 10 #[.agg #[.int .u8 (k : Int), .string (str nm), .int .i64 n, .slice A ks.length c]] w fun e w' => ∃ A' c', e = .returned (.agg #[.int .u8 (k : Int), .string (str nm), .int .i64 n, .slice A' ks.length c']) ∧ ks.length ≤ c' ∧ c' ≤ maxLen ∧ Ty.At (fun b => w.heap.size ≤ b ∧ b < w'.heap.size) w' A' ks ∧ Below w.heap.size w w'
  obtain ⟨kl, hkl⟩ : ∃ kl, ks.length = kl := ⟨_, rfl⟩
  rw [hkl] at hc hkp
  rw [hkl]
  have hmx : kl ≤ 100000 := by omega
  have HK := Lib.hid (And.intro hkl (And.intro hA (And.intro ih hp)))
  obtain ⟨w0, hw0⟩ : ∃ w0, ((w.alloc (.cells #[.int .u8 (k : Int), .string (str nm), .int .i64 n, .slice A kl c] 24)).alloc (.cells #[.int .u8 0, .string ⟨#[]⟩, .int .i64 0, .slice none 0 0] 24)).alloc (.cells #[.int .u8 (k : Int), .string (str nm), .int .i64 n, .slice none 0 0] 24) = w0 := ⟨_, rfl⟩
  have hb0 : Below w.heap.size w w0 := by rw [← hw0]; exact (((Below.refl _ _).alloc (Nat.le_refl _) _).alloc (by simp) _).alloc (by simp; omega) _
  have hI0 : TwI w w0 k nm n A kl c ks 0 (.slice none 0 0) := by
    refine ⟨by rw [← hw0]; exact ((Blk.new _ _ _).alloc _).alloc _, ?_, ?_, hb0, [], by simp, TyO.nil _ _⟩
    · have := (Blk.new (w.alloc (.cells #[.int .u8 (k : Int), .string (str nm), .int .i64 n, .slice A kl c] 24)) 24 #[.int .u8 0, .string ⟨#[]⟩, .int .i64 0, .slice none 0 0]).alloc (.cells #[.int .u8 (k : Int), .string (str nm), .int .i64 n, .slice none 0 0] 24)
      rw [World.size_alloc] at this
      rw [← hw0]; exact this
    · have := Blk.new ((w.alloc (.cells #[.int .u8 (k : Int), .string (str nm), .int .i64 n, .slice A kl c] 24)).alloc (.cells #[.int .u8 0, .string ⟨#[]⟩, .int .i64 0, .slice none 0 0] 24)) 24 #[.int .u8 (k : Int), .string (str nm), .int .i64 n, .slice none 0 0]
      rw [World.size_alloc, World.size_alloc] at this
      rw [← hw0]; exact this
  have HI0 := Lib.hid hI0
  have HW0 := Lib.hid hw0
  clear hkl hA ih hm hc hb0 hI0 hp hkp hw0
  go_enter Try.func10, Try.ntmps10
  go_upto_region 2 with fail
  rw [HW0.out]
  clear HW0
  go_wp2_with fail
  go_loopw [4] (fun iv wr => ∃ (i : Nat) (v : Value), i ≤ kl ∧ iv = .int .i64 (i : Int) ∧ Hid (TwI w wr k nm n A kl c ks i v)) (fun iv _ => kl - (intOf iv).toNat)
  case atStart => exact ⟨0, _, Nat.zero_le _, rfl, HI0⟩
  case round =>
    clear HI0
    obtain ⟨i, v, hi, rfl, hJ⟩ := hrel
    have d3 := hJ.out.box.cell 3
    have k0 := hJ.out.x.cell 3
    simp only [List.getElem?_toArray, List.getElem?_cons_zero, List.getElem?_cons_succ] at d3 k0
    by_cases hli : i < kl
    · have hd : decide ((i : Int) < (kl : Int)) = true := by simpa using hli
      obtain ⟨t, ht⟩ : ∃ t, ks[i]? = some t := ⟨_, List.getElem?_eq_getElem (by rw [HK.out.1]; exact hli)⟩
      obtain ⟨b, off, A', c', rfl, _, hbw, z0', z1', z2', z3', hok, hlc, hcm, hAt'⟩ := HK.out.2.1.get ht
      have hAt := hAt'.bel hJ.out.bel
      have z0 := (hJ.out.bel.cell (p := ⟨b, off + i * 4, none⟩) hbw).trans z0'
      have z1 := (hJ.out.bel.cell (p := ⟨b, off + i * 4 + 1, none⟩) hbw).trans z1'
      have z2 := (hJ.out.bel.cell (p := ⟨b, off + i * 4 + 2, none⟩) hbw).trans z2'
      have z3 := (hJ.out.bel.cell (p := ⟨b, off + i * 4 + 3, none⟩) hbw).trans z3'
      clear z0' z1' z2' z3' hAt'
      have HC := HK.out.2.2.1 t (List.mem_of_getElem? ht) A' c' wr.drew (hAt.bel (Below.refl _ wr).drew) hlc hcm (by have := Ty.partss_mem (List.mem_of_getElem? ht); have := HK.out.2.2.2; omega)
      unfold Ty.val at HC
      obtain ⟨tl, htl⟩ : ∃ tl, t.ks.length = tl := ⟨_, rfl⟩
      rw [htl] at HC z3
      replace HC := Lib.hid HC
      obtain ⟨es, hes, hto⟩ := hJ.out.row
      have hel : es.length = i := by rw [← List.length_map (f := Te.t), hes, List.length_take, HK.out.1]; omega
      have hvl : ∀ g, v.ownBlock = some g → w.heap.size + 3 ≤ g ∧ g < wr.heap.size := fun g hg => hto.own.lt g hg
      have HXL := Lib.hid hJ.out.xl
      have HPU : Hid (∀ (w7 : World) (A2 : Option Addr) (c2 : Nat) (wb : World), tl ≤ c2 → c2 ≤ maxLen → Ty.At (fun b => wr.drew.heap.size ≤ b ∧ b < w7.heap.size) w7 A2 t.ks → Below wr.heap.size wr w7 → Below w7.heap.size w7 wb → Blk wb w7.heap.size 24 #[.int .u8 (t.k : Int), .string (str t.nm), .int .i64 t.n, .slice A2 tl c2] →
          ∃ A8 c8 w9, (Builtin.append_ #[22, 22] 22 #[v, .slice (some ⟨w7.heap.size, 0, none⟩) 1 1]).run Try.prog wb = .ok (.slice A8 (i + 1) c8) w9 ∧ (∃ es' : List Te, es'.map Te.t = ks.take (i + 1) ∧ TyO (w.heap.size + 3) w9 (.slice A8 (i + 1) c8) es') ∧ wb.grownBy w9 v.ownBlock) := Lib.hid fun w7 A2 c2 wb hc2 hm2 hA2 h7 hb hBb => by
        have hbw := h7.trans (hb.mono h7.size)
        have h3 := HXL.out
        obtain ⟨v', w9, hrun, hto', hg, hv⟩ := (hto.below hbw).push (by have := hbw.size; omega) ⟨t, A2, c2⟩ w7.heap.size (fun j u hj => by
          rw [hBb.cell]
          unfold Te.cells Ty.cells at hj
          dsimp only at hj
          rw [htl] at hj
          simpa using hj) ⟨(hA2.bel hb).mono fun g hg => by
          have h4 : wr.heap.size ≤ g := hg.1
          exact ⟨by omega, Nat.lt_of_lt_of_le hg.2 hb.size, fun e => by have := (hvl g e).2; omega⟩, hok, by rw [htl]; exact hc2, hm2⟩ (by rw [hel]; omega)
        obtain ⟨A8, c8, rfl, _⟩ := hto'.shape
        rw [List.length_append, List.length_singleton, hel] at hrun hto'
        refine ⟨A8, c8, w9, hrun, ⟨_, ?_, hto'⟩, hg⟩
        rw [List.map_append, hes, List.take_add_one, ht]
        rfl
      have HX9 : Hid (∀ wb w9 : World, Below wr.heap.size wr wb → wb.grownBy w9 v.ownBlock → Blk w9 (w.heap.size + 2) 24 #[.int .u8 (k : Int), .string (str nm), .int .i64 n, v]) := Lib.hid fun wb w9 hb hg => (hJ.out.x.below hb HXL.out).grown hg fun e => by have := (hvl _ e.symm).1; omega
      have hS0 := And.intro d3 (And.intro z0 (And.intro z1 (And.intro z2 z3)))
      have HS9 : Hid (∀ wb w9 : World, Below wr.heap.size wr wb → wb.grownBy w9 v.ownBlock → (fun W => W.cell? ⟨w.heap.size, 3, none⟩ = some (.slice (some ⟨b, off, none⟩) kl c) ∧ W.cell? ⟨b, off + i * 4, none⟩ = some (.int .u8 (t.k : Int)) ∧ W.cell? ⟨b, off + i * 4 + 1, none⟩ = some (.string (str t.nm)) ∧ W.cell? ⟨b, off + i * 4 + 2, none⟩ = some (.int .i64 t.n) ∧ W.cell? ⟨b, off + i * 4 + 3, none⟩ = some (.slice A' tl c')) w9) := Lib.hid fun wb w9 hb hg => by
        have ho := Off.of_grown hg
        have mv : ∀ (p : Addr) (u : Value), p.block < w.heap.size + 1 → wr.cell? p = some u → w9.cell? p = some u := fun p u hp hu => (World.cell?_of_block (ho.block _ (by have := hb.size; have := HXL.out; omega) (fun e => by have := (hvl _ e).1; omega))).trans ((hb.cell (by have := HXL.out; omega)).trans hu)
        exact ⟨mv _ _ (Nat.lt_succ_self _) d3, mv _ _ (Nat.lt_succ_of_lt hbw) z0, mv _ _ (Nat.lt_succ_of_lt hbw) z1, mv _ _ (Nat.lt_succ_of_lt hbw) z2, mv _ _ (Nat.lt_succ_of_lt hbw) z3⟩
      have HS10 : Hid (∀ (w9 : World) (u : Value), (fun W => W.cell? ⟨w.heap.size, 3, none⟩ = some (.slice (some ⟨b, off, none⟩) kl c) ∧ W.cell? ⟨b, off + i * 4, none⟩ = some (.int .u8 (t.k : Int)) ∧ W.cell? ⟨b, off + i * 4 + 1, none⟩ = some (.string (str t.nm)) ∧ W.cell? ⟨b, off + i * 4 + 2, none⟩ = some (.int .i64 t.n) ∧ W.cell? ⟨b, off + i * 4 + 3, none⟩ = some (.slice A' tl c')) w9 → (fun W => W.cell? ⟨w.heap.size, 3, none⟩ = some (.slice (some ⟨b, off, none⟩) kl c) ∧ W.cell? ⟨b, off + i * 4, none⟩ = some (.int .u8 (t.k : Int)) ∧ W.cell? ⟨b, off + i * 4 + 1, none⟩ = some (.string (str t.nm)) ∧ W.cell? ⟨b, off + i * 4 + 2, none⟩ = some (.int .i64 t.n) ∧ W.cell? ⟨b, off + i * 4 + 3, none⟩ = some (.slice A' tl c')) (w9.setCell ⟨w.heap.size + 2, 3, none⟩ u)) := Lib.hid fun w9 u h => by
        have mv : ∀ (p : Addr) (u' : Value), p.block < w.heap.size + 1 → w9.cell? p = some u' → (w9.setCell ⟨w.heap.size + 2, 3, none⟩ u).cell? p = some u' := fun p u' hp hu => (World.cell?_of_block (Below.heap_setCell _ _ _ _ (by show p.block ≠ w.heap.size + 2; omega))).trans hu
        exact ⟨mv _ _ (Nat.lt_succ_self _) h.1, mv _ _ (Nat.lt_succ_of_lt hbw) h.2.1, mv _ _ (Nat.lt_succ_of_lt hbw) h.2.2.1, mv _ _ (Nat.lt_succ_of_lt hbw) h.2.2.2.1, mv _ _ (Nat.lt_succ_of_lt hbw) h.2.2.2.2⟩
      have HNX : Hid (∀ (wb w9 : World) (v' : Value), Below wr.heap.size wr wb → (∃ es' : List Te, es'.map Te.t = ks.take (i + 1) ∧ TyO (w.heap.size + 3) w9 v' es') → wb.grownBy w9 v.ownBlock → TwI w (w9.setCell ⟨w.heap.size + 2, 3, none⟩ v') k nm n (some ⟨b, off, none⟩) kl c ks (i + 1) v') := Lib.hid fun wb w9 v' hb hz hg => by
        obtain ⟨es', h1, h2⟩ := hz
        have ho := Off.of_grown hg
        have hx := HXL.out
        have hn : ∀ g, g < w.heap.size + 3 → ¬ v.ownBlock = some g := fun g h e => by have := (hvl _ e).1; omega
        refine ⟨(((hJ.out.box.below hb hJ.out.box.lt).off ho (hn _ (by omega))).far (p := ⟨w.heap.size + 2, 3, none⟩) (by show w.heap.size ≠ w.heap.size + 2; omega) _), (((hJ.out.res.below hb hJ.out.res.lt).off ho (hn _ (by omega))).far (p := ⟨w.heap.size + 2, 3, none⟩) (by show w.heap.size + 1 ≠ w.heap.size + 2; omega) _), ?_, ?_, es', h1, h2.set (by omega) _ _⟩
        · have := ((hJ.out.x.below hb hJ.out.x.lt).off ho (hn _ (by omega))).set_ 3 v'
          simpa using this
        · exact hJ.out.bel.trans (((hb.mono hJ.out.bel.size).trans (ho.below (by have := hb.size; omega) (fun g e => by have := (hvl _ e).1; omega))).trans ((Off.setc w9 (w.heap.size + 2) 3 v').below (by have := hb.size; have := ho.size; omega) (fun g e => by omega)))
      have HW := Lib.hid (And.intro hbw hok)
      clear hbw hok hlc hcm hAt hto hes hel
      go_upto_region 5 with fail
      refine wp_region_held_drew (S := (fun W => W.cell? ⟨w.heap.size, 3, none⟩ = some (.slice (some ⟨b, off, none⟩) kl c) ∧ W.cell? ⟨b, off + i * 4, none⟩ = some (.int .u8 (t.k : Int)) ∧ W.cell? ⟨b, off + i * 4 + 1, none⟩ = some (.string (str t.nm)) ∧ W.cell? ⟨b, off + i * 4 + 2, none⟩ = some (.int .i64 t.n) ∧ W.cell? ⟨b, off + i * 4 + 3, none⟩ = some (.slice A' tl c'))) (by kernel_rfl) hS0 (fun hHeld => ?_)
      refine takeY 0 (some 19) rfl rfl (by kernel_rfl) (by kernel_rfl) (by kernel_rfl) (fun _ _ _ h => h) (by rfl) (v := _) (by (intro _ hSw; (try dsimp only at hSw); go_simp; try with_reducible rfl)) hHeld ?_
      simp only [Act.put, List.setIfInBounds_toArray, List.set_cons_zero, List.set_cons_succ]
      refine takeY 2 (some 21) rfl rfl (by kernel_rfl) (by kernel_rfl) (by kernel_rfl) (fun _ _ _ h => h) (by rfl) (v := _) (by (intro _ hSw; (try dsimp only at hSw); go_simp; try with_reducible rfl)) hHeld ?_
      simp only [Act.put, List.setIfInBounds_toArray, List.set_cons_zero, List.set_cons_succ]
      refine takeY 3 (some 22) rfl rfl (by kernel_rfl) (by kernel_rfl) (by kernel_rfl) (fun _ _ _ h => h) (by rfl) (v := _) (by (intro _ hSw; (try dsimp only at hSw); go_simp; try with_reducible rfl)) hHeld ?_
      simp only [Act.put, List.setIfInBounds_toArray, List.set_cons_zero, List.set_cons_succ]
      refine takeY 4 (some 23) rfl rfl (by kernel_rfl) (by kernel_rfl) (by kernel_rfl) (fun _ _ _ h => h) (by rfl) (v := _) (by (intro _ hSw; (try dsimp only at hSw); go_simp; try with_reducible rfl)) hHeld ?_
      simp only [Act.put, List.setIfInBounds_toArray, List.set_cons_zero, List.set_cons_succ]
      refine takeY 5 (some 24) rfl rfl (by kernel_rfl) (by kernel_rfl) (by kernel_rfl) (fun _ _ _ h => h) (by rfl) (v := _) (by (intro _ hSw; (try dsimp only at hSw); go_simp; try with_reducible rfl)) hHeld ?_
      simp only [Act.put, List.setIfInBounds_toArray, List.set_cons_zero, List.set_cons_succ]
      refine takeY 6 (some 25) rfl rfl (by kernel_rfl) (by kernel_rfl) (by kernel_rfl) (fun _ _ _ h => h) (by rfl) (v := _) (by (intro _ hSw; (try dsimp only at hSw); go_simp; try with_reducible rfl)) hHeld ?_
      simp only [Act.put, List.setIfInBounds_toArray, List.set_cons_zero, List.set_cons_succ]
      refine wpAnyH_ready (rs := [1, 7]) (by kernel_rfl) (by simp) ?_
      refine AllReadyH.cons rfl (fun K hK => ?_) (AllReadyH.cons rfl (fun K hK => ?_) AllReadyH.nil)
      · go_simp
        refine hK.out _ _ hHeld (fun hHeld => ?_)
        clear hK K
        refine wpAnyH_ready (rs := [7]) (by kernel_rfl) (by simp) ?_
        refine AllReadyH.cons rfl (fun K hK => ?_) AllReadyH.nil
        clear hHeld
        go_simp
        go_wp2_with (go_at_call 10; refine Calls.mono HC.out ?_; rintro e w7 ⟨A2, c2, rfl, hc2, hm2, hA2, hb7⟩; have hb7w : Below wr.heap.size wr w7 := (Below.refl _ wr).drew.trans hb7; obtain ⟨wb, hwb⟩ : ∃ wb, w7.alloc (.cells #[.int .u8 (t.k : Int), .string (str t.nm), .int .i64 t.n, .slice A2 tl c2] 24) = wb := ⟨_, rfl⟩; have hbb : Below w7.heap.size w7 wb := (by rw [← hwb]; exact (Below.refl _ _).alloc (Nat.le_refl _) _); have hBb : Blk wb w7.heap.size 24 #[.int .u8 (t.k : Int), .string (str t.nm), .int .i64 t.n, .slice A2 tl c2] := (by rw [← hwb]; exact Blk.new _ _ _); obtain ⟨A8, c8, w9, hrun, hz9, hg9⟩ := HPU.out w7 A2 c2 wb hc2 hm2 hA2 hb7w hbb hBb; have HB7 := Lib.hid (And.intro hb7w (And.intro (hb7w.trans (hbb.mono hb7w.size)) (And.intro hz9 hg9))); have HRUN := Lib.hid hrun; have k7 : w7.cell? ⟨w.heap.size + 2, 3, none⟩ = some v := (hb7w.cell (p := ⟨w.heap.size + 2, 3, none⟩) HXL.out).trans k0; have kb : wb.cell? ⟨w.heap.size + 2, 3, none⟩ = some v := (hbb.cell (p := ⟨w.heap.size + 2, 3, none⟩) (Nat.lt_of_lt_of_le HXL.out hb7w.size)).trans k7; have x9 := HX9.out wb w9 (hb7w.trans (hbb.mono hb7w.size)) hg9; have x9c := x9.cell 3; have x9f := x9.frozen; simp only [List.getElem?_toArray, List.getElem?_cons_zero, List.getElem?_cons_succ] at x9c; have HX10 := Lib.hid x9; clear hb7 hb7w hbb hBb hrun hz9 hg9 hc2 hm2 hA2 x9)
        refine hK.out _ _ ⟨(HB7.out.1.cell (World.block_lt_of_cell? _ _ (hS0.1))).trans hS0.1, (HB7.out.1.cell (World.block_lt_of_cell? _ _ (hS0.2.1))).trans hS0.2.1, (HB7.out.1.cell (World.block_lt_of_cell? _ _ (hS0.2.2.1))).trans hS0.2.2.1, (HB7.out.1.cell (World.block_lt_of_cell? _ _ (hS0.2.2.2.1))).trans hS0.2.2.2.1, (HB7.out.1.cell (World.block_lt_of_cell? _ _ (hS0.2.2.2.2))).trans hS0.2.2.2.2⟩ (fun hHeld => ?_)
        clear hK K
        refine wpAnyH_ready (rs := [8]) (by kernel_rfl) (by simp) ?_
        refine AllReadyH.cons rfl (fun K hK => ?_) AllReadyH.nil
        go_simp
        (try rw [hwb])
        refine hK.out _ _ ⟨(HB7.out.2.1.cell (World.block_lt_of_cell? _ _ (hS0.1))).trans hS0.1, (HB7.out.2.1.cell (World.block_lt_of_cell? _ _ (hS0.2.1))).trans hS0.2.1, (HB7.out.2.1.cell (World.block_lt_of_cell? _ _ (hS0.2.2.1))).trans hS0.2.2.1, (HB7.out.2.1.cell (World.block_lt_of_cell? _ _ (hS0.2.2.2.1))).trans hS0.2.2.2.1, (HB7.out.2.1.cell (World.block_lt_of_cell? _ _ (hS0.2.2.2.2))).trans hS0.2.2.2.2⟩ (fun hHeld => ?_)
        clear hK K
        refine wpAnyH_ready (rs := [9]) (by kernel_rfl) (by simp) ?_
        refine AllReadyH.cons rfl (fun K hK => ?_) AllReadyH.nil
        clear hHeld
        refine step_app rfl (.tmp 20) (.tmp 27) 22 rfl _ _ _ _ (by simp [Act.eval]) (by simp [Act.eval]) HRUN.out ?_
        simp only [Act.put, List.setIfInBounds_toArray]
        refine hK.out _ _ (HS9.out _ _ HB7.out.2.1 HB7.out.2.2.2) (fun hHeld => ?_)
        clear hK K
        refine takeY 10 (some 29) rfl rfl (by kernel_rfl) (by kernel_rfl) (by kernel_rfl) (fun _ _ _ h => h) (by rfl) (v := _) (by (intro _ hSw; (try dsimp only at hSw); go_simp; try with_reducible rfl)) hHeld ?_
        simp only [Act.put, List.setIfInBounds_toArray, List.set_cons_zero, List.set_cons_succ]
        refine wpAnyH_ready (rs := [11]) (by kernel_rfl) (by simp) ?_
        refine AllReadyH.cons rfl (fun K hK => ?_) AllReadyH.nil
        go_simp
        refine hK.out _ _ (HS10.out _ _ (HS9.out _ _ HB7.out.2.1 HB7.out.2.2.2)) (fun hHeld => ?_)
        clear hK K
        refine wpAnyH_done (by kernel_rfl) ?_ _
        obtain ⟨wz, hwz⟩ : ∃ wz, w9.setCell ⟨w.heap.size + 2, 3, none⟩ (.slice A8 (i + 1) c8) = wz := ⟨_, rfl⟩
        have HN : Hid (TwI w wz k nm n (some ⟨b, off, none⟩) kl c ks (i + 1) (.slice A8 (i + 1) c8)) := Lib.hid (by rw [← hwz]; exact HNX.out wb w9 _ HB7.out.2.1 HB7.out.2.2.1 HB7.out.2.2.2)
        (try rw [hwz])
        clear hHeld hwz HB7 k7 kb x9c x9f HX10 hwb k0 hS0
        go_wp2_with fail
        go_roundw
        case rel => exact ⟨i + 1, _, by omega, by go_num, HN⟩
        case measure => simp [intOf]; omega
      · clear hHeld
        go_simp
        go_wp2_with (go_at_call 10; refine Calls.mono HC.out ?_; rintro e w7 ⟨A2, c2, rfl, hc2, hm2, hA2, hb7⟩; have hb7w : Below wr.heap.size wr w7 := (Below.refl _ wr).drew.trans hb7; obtain ⟨wb, hwb⟩ : ∃ wb, w7.alloc (.cells #[.int .u8 (t.k : Int), .string (str t.nm), .int .i64 t.n, .slice A2 tl c2] 24) = wb := ⟨_, rfl⟩; have hbb : Below w7.heap.size w7 wb := (by rw [← hwb]; exact (Below.refl _ _).alloc (Nat.le_refl _) _); have hBb : Blk wb w7.heap.size 24 #[.int .u8 (t.k : Int), .string (str t.nm), .int .i64 t.n, .slice A2 tl c2] := (by rw [← hwb]; exact Blk.new _ _ _); obtain ⟨A8, c8, w9, hrun, hz9, hg9⟩ := HPU.out w7 A2 c2 wb hc2 hm2 hA2 hb7w hbb hBb; have HB7 := Lib.hid (And.intro hb7w (And.intro (hb7w.trans (hbb.mono hb7w.size)) (And.intro hz9 hg9))); have HRUN := Lib.hid hrun; have k7 : w7.cell? ⟨w.heap.size + 2, 3, none⟩ = some v := (hb7w.cell (p := ⟨w.heap.size + 2, 3, none⟩) HXL.out).trans k0; have kb : wb.cell? ⟨w.heap.size + 2, 3, none⟩ = some v := (hbb.cell (p := ⟨w.heap.size + 2, 3, none⟩) (Nat.lt_of_lt_of_le HXL.out hb7w.size)).trans k7; have x9 := HX9.out wb w9 (hb7w.trans (hbb.mono hb7w.size)) hg9; have x9c := x9.cell 3; have x9f := x9.frozen; simp only [List.getElem?_toArray, List.getElem?_cons_zero, List.getElem?_cons_succ] at x9c; have HX10 := Lib.hid x9; clear hb7 hb7w hbb hBb hrun hz9 hg9 hc2 hm2 hA2 x9)
        refine hK.out _ _ ⟨(HB7.out.1.cell (World.block_lt_of_cell? _ _ (hS0.1))).trans hS0.1, (HB7.out.1.cell (World.block_lt_of_cell? _ _ (hS0.2.1))).trans hS0.2.1, (HB7.out.1.cell (World.block_lt_of_cell? _ _ (hS0.2.2.1))).trans hS0.2.2.1, (HB7.out.1.cell (World.block_lt_of_cell? _ _ (hS0.2.2.2.1))).trans hS0.2.2.2.1, (HB7.out.1.cell (World.block_lt_of_cell? _ _ (hS0.2.2.2.2))).trans hS0.2.2.2.2⟩ (fun hHeld => ?_)
        clear hK K
        refine wpAnyH_ready (rs := [1, 8]) (by kernel_rfl) (by simp) ?_
        refine AllReadyH.cons rfl (fun K hK => ?_) (AllReadyH.cons rfl (fun K hK => ?_) AllReadyH.nil)
        · go_simp
          refine hK.out _ _ hHeld (fun hHeld => ?_)
          clear hK K
          refine wpAnyH_ready (rs := [8]) (by kernel_rfl) (by simp) ?_
          refine AllReadyH.cons rfl (fun K hK => ?_) AllReadyH.nil
          go_simp
          (try rw [hwb])
          refine hK.out _ _ ⟨(HB7.out.2.1.cell (World.block_lt_of_cell? _ _ (hS0.1))).trans hS0.1, (HB7.out.2.1.cell (World.block_lt_of_cell? _ _ (hS0.2.1))).trans hS0.2.1, (HB7.out.2.1.cell (World.block_lt_of_cell? _ _ (hS0.2.2.1))).trans hS0.2.2.1, (HB7.out.2.1.cell (World.block_lt_of_cell? _ _ (hS0.2.2.2.1))).trans hS0.2.2.2.1, (HB7.out.2.1.cell (World.block_lt_of_cell? _ _ (hS0.2.2.2.2))).trans hS0.2.2.2.2⟩ (fun hHeld => ?_)
          clear hK K
          refine wpAnyH_ready (rs := [9]) (by kernel_rfl) (by simp) ?_
          refine AllReadyH.cons rfl (fun K hK => ?_) AllReadyH.nil
          clear hHeld
          refine step_app rfl (.tmp 20) (.tmp 27) 22 rfl _ _ _ _ (by simp [Act.eval]) (by simp [Act.eval]) HRUN.out ?_
          simp only [Act.put, List.setIfInBounds_toArray]
          refine hK.out _ _ (HS9.out _ _ HB7.out.2.1 HB7.out.2.2.2) (fun hHeld => ?_)
          clear hK K
          refine takeY 10 (some 29) rfl rfl (by kernel_rfl) (by kernel_rfl) (by kernel_rfl) (fun _ _ _ h => h) (by rfl) (v := _) (by (intro _ hSw; (try dsimp only at hSw); go_simp; try with_reducible rfl)) hHeld ?_
          simp only [Act.put, List.setIfInBounds_toArray, List.set_cons_zero, List.set_cons_succ]
          refine wpAnyH_ready (rs := [11]) (by kernel_rfl) (by simp) ?_
          refine AllReadyH.cons rfl (fun K hK => ?_) AllReadyH.nil
          go_simp
          refine hK.out _ _ (HS10.out _ _ (HS9.out _ _ HB7.out.2.1 HB7.out.2.2.2)) (fun hHeld => ?_)
          clear hK K
          refine wpAnyH_done (by kernel_rfl) ?_ _
          obtain ⟨wz, hwz⟩ : ∃ wz, w9.setCell ⟨w.heap.size + 2, 3, none⟩ (.slice A8 (i + 1) c8) = wz := ⟨_, rfl⟩
          have HN : Hid (TwI w wz k nm n (some ⟨b, off, none⟩) kl c ks (i + 1) (.slice A8 (i + 1) c8)) := Lib.hid (by rw [← hwz]; exact HNX.out wb w9 _ HB7.out.2.1 HB7.out.2.2.1 HB7.out.2.2.2)
          (try rw [hwz])
          clear hHeld hwz HB7 k7 kb x9c x9f HX10 hwb k0 hS0
          go_wp2_with fail
          go_roundw
          case rel => exact ⟨i + 1, _, by omega, by go_num, HN⟩
          case measure => simp [intOf]; omega
        · go_simp
          (try rw [hwb])
          refine hK.out _ _ ⟨(HB7.out.2.1.cell (World.block_lt_of_cell? _ _ (hS0.1))).trans hS0.1, (HB7.out.2.1.cell (World.block_lt_of_cell? _ _ (hS0.2.1))).trans hS0.2.1, (HB7.out.2.1.cell (World.block_lt_of_cell? _ _ (hS0.2.2.1))).trans hS0.2.2.1, (HB7.out.2.1.cell (World.block_lt_of_cell? _ _ (hS0.2.2.2.1))).trans hS0.2.2.2.1, (HB7.out.2.1.cell (World.block_lt_of_cell? _ _ (hS0.2.2.2.2))).trans hS0.2.2.2.2⟩ (fun hHeld => ?_)
          clear hK K
          refine wpAnyH_ready (rs := [1]) (by kernel_rfl) (by simp) ?_
          refine AllReadyH.cons rfl (fun K hK => ?_) AllReadyH.nil
          go_simp
          refine hK.out _ _ hHeld (fun hHeld => ?_)
          clear hK K
          refine wpAnyH_ready (rs := [9]) (by kernel_rfl) (by simp) ?_
          refine AllReadyH.cons rfl (fun K hK => ?_) AllReadyH.nil
          clear hHeld
          refine step_app rfl (.tmp 20) (.tmp 27) 22 rfl _ _ _ _ (by simp [Act.eval]) (by simp [Act.eval]) HRUN.out ?_
          simp only [Act.put, List.setIfInBounds_toArray]
          refine hK.out _ _ (HS9.out _ _ HB7.out.2.1 HB7.out.2.2.2) (fun hHeld => ?_)
          clear hK K
          refine takeY 10 (some 29) rfl rfl (by kernel_rfl) (by kernel_rfl) (by kernel_rfl) (fun _ _ _ h => h) (by rfl) (v := _) (by (intro _ hSw; (try dsimp only at hSw); go_simp; try with_reducible rfl)) hHeld ?_
          simp only [Act.put, List.setIfInBounds_toArray, List.set_cons_zero, List.set_cons_succ]
          refine wpAnyH_ready (rs := [11]) (by kernel_rfl) (by simp) ?_
          refine AllReadyH.cons rfl (fun K hK => ?_) AllReadyH.nil
          go_simp
          refine hK.out _ _ (HS10.out _ _ (HS9.out _ _ HB7.out.2.1 HB7.out.2.2.2)) (fun hHeld => ?_)
          clear hK K
          refine wpAnyH_done (by kernel_rfl) ?_ _
          obtain ⟨wz, hwz⟩ : ∃ wz, w9.setCell ⟨w.heap.size + 2, 3, none⟩ (.slice A8 (i + 1) c8) = wz := ⟨_, rfl⟩
          have HN : Hid (TwI w wz k nm n (some ⟨b, off, none⟩) kl c ks (i + 1) (.slice A8 (i + 1) c8)) := Lib.hid (by rw [← hwz]; exact HNX.out wb w9 _ HB7.out.2.1 HB7.out.2.2.1 HB7.out.2.2.2)
          (try rw [hwz])
          clear hHeld hwz HB7 k7 kb x9c x9f HX10 hwb k0 hS0
          go_wp2_with fail
          go_roundw
          case rel => exact ⟨i + 1, _, by omega, by go_num, HN⟩
          case measure => simp [intOf]; omega
    · obtain rfl : i = kl := by omega
      have hd : decide ((i : Int) < (i : Int)) = false := by simp
      obtain ⟨es, hes, hto⟩ := hJ.out.row
      have hel : es.length = i := by rw [← List.length_map (f := Te.t), hes, List.length_take, HK.out.1]; omega
      obtain ⟨A2, c2, rfl, hl2, hm2, hA2⟩ := hto.shape
      rw [hes, List.take_of_length_le (by rw [HK.out.1]; omega)] at hA2
      rw [hel] at hJ hl2 k0
      have x0 := hJ.out.x.cell 0
      have x1 := hJ.out.x.cell 1
      have x2 := hJ.out.x.cell 2
      have y0 := hJ.out.res.cell 0
      have y1 := hJ.out.res.cell 1
      have y2 := hJ.out.res.cell 2
      have y3 := hJ.out.res.cell 3
      have yf := hJ.out.res.frozen
      simp only [List.getElem?_toArray, List.getElem?_cons_zero, List.getElem?_cons_succ] at x0 x1 x2 y0 y1 y2 y3
      have HR := Lib.hid (And.intro hJ.out.res (And.intro hJ.out.bel (And.intro hl2 (And.intro hm2 hA2))))
      clear hJ hto hA2 hes hl2 hm2
      go_wp2_with fail
      have HB9 := HR.out.1.set4 (.int .u8 (k : Int)) (.string (str nm)) (.int .i64 n) (.slice A2 i c2)
      refine bodyPost_ret (results_cell_row rfl _ _ (w.heap.size + 1) 24 _ (0, 0) _ rfl HB9 Try.underlying24 rfl (by kernel_rfl)) rfl ?_
      have ho := off4 wr (w.heap.size + 1) (.int .u8 (k : Int)) (.string (str nm)) (.int .i64 n) (.slice A2 i c2)
      exact ⟨A2, c2, rfl, HR.out.2.2.1, HR.out.2.2.2.1, (HR.out.2.2.2.2.off ho (fun g h e => by have := h.1; omega)).mono (fun g h => ⟨by have := h.1; omega, Nat.lt_of_lt_of_le h.2 ho.size⟩), HR.out.2.1.trans (ho.below HR.out.2.1.size (fun g e => by omega))⟩
end Go.Proofs.Ytndhojnfjlkojaa
