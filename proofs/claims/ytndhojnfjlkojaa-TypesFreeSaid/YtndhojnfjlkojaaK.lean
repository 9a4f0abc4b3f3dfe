/- types: through, for any closure that it is handed. -/
import Derived.Test.YtndhojnfjlkojaaI
import Derived.Test.YtndhojnfjlkojaaJ
import Derived.Shelf.Abstract
namespace Go.Proofs.Ytndhojnfjlkojaa
open Go.RowKit
set_option linter.unusedVariables false
set_option linter.unusedSimpArgs false
attribute [local go_sem] Oper.semAt_some
mutual
/-- What through makes of a type, where pl tells what comes in the place of an unknown. -/
def thr (pl : Int → Option Ty) : Ty → Ty
  | .node k nm n ks => if k = 1 then (pl n).getD (.node k nm n (thrs pl ks)) else .node k nm n (thrs pl ks)
def thrs (pl : Int → Option Ty) : List Ty → List Ty
  | [] => []
  | t :: ts => thr pl t :: thrs pl ts
/-- The numbers of all unknowns, of those in unknowns, too. -/
def Ty.allnums : Ty → List Int
  | .node k nm n ks => (if k = 1 then [n] else []) ++ Ty.allnumss ks
def Ty.allnumss : List Ty → List Int
  | [] => []
  | t :: ts => Ty.allnums t ++ Ty.allnumss ts
end
theorem thrs_map (pl : Int → Option Ty) : ∀ ts, thrs pl ts = ts.map (thr pl)
  | [] => by simp [thrs]
  | t :: ts => by rw [thrs, thrs_map pl ts, List.map_cons]
theorem Ty.allnums_mem : ∀ {ts : List Ty} {t : Ty} {m : Int}, t ∈ ts → m ∈ t.allnums → m ∈ Ty.allnumss ts
  | [], _, _, h, _ => by cases h
  | u :: ts, t, m, h, hm => by
    rw [Ty.allnumss, List.mem_append]
    rcases List.mem_cons.1 h with rfl | h
    · exact .inl hm
    · exact .inr (Ty.allnums_mem h hm)
/-- A type of a call's own. -/
structure Made (w w' : World) (t : Ty) (A : Option Addr) (c : Nat) : Prop where
  len : t.ks.length ≤ c
  cap : c ≤ maxLen
  at_ : Ty.At (fun b => w.heap.size ≤ b ∧ b < w'.heap.size) w' A t.ks
  bel : Below w.heap.size w w'
  ok : t.ok
/-- A made row of types, of which the first are there. -/
structure Row (w : World) (q kl B : Nat) (es : List Te) : Prop where
  blk : ∃ cur, Blk w q 24 cur ∧ cur.size = kl * 4 ∧ ∀ (r j : Nat) (e : Te) (v : Value), es[r]? = some e → e.cells[j]? = some v → cur[r * 4 + j]? = some v
  kids : ∀ e ∈ es, e.in_ (fun b => B ≤ b ∧ b < w.heap.size ∧ b ≠ q) w
theorem Te.in_off {F G : Nat → Prop} {w w' : World} {e : Te} (h : e.in_ F w) (ho : Off G w w') (hG : ∀ b, F b → ¬ G b) : e.in_ F w' := ⟨h.1.off ho hG, h.2⟩
theorem Te.in_mono {F G : Nat → Prop} {w : World} {e : Te} (h : e.in_ F w) (hF : ∀ b, F b → G b) : e.in_ G w := ⟨h.1.mono hF, h.2⟩
theorem Row.bel {w w' : World} {q kl B : Nat} {es : List Te} (h : Row w q kl B es) (hb : Below w.heap.size w w') : Row w' q kl B es := by
  obtain ⟨cur, h1, h2⟩ := h.blk
  exact ⟨⟨cur, h1.below hb h1.lt, h2⟩, fun e he => ⟨((h.kids e he).1.bel hb).mono fun b h3 => ⟨h3.1, Nat.lt_of_lt_of_le h3.2.1 hb.size, h3.2.2⟩, (h.kids e he).2⟩⟩
theorem Row.far {w : World} {q kl B : Nat} {es : List Te} (h : Row w q kl B es) {g : Nat} (hg : g < B) (hq : g ≠ q) (i : Nat) (u : Value) : Row (w.setCell ⟨g, i, none⟩ u) q kl B es := by
  obtain ⟨cur, h1, h2⟩ := h.blk
  exact ⟨⟨cur, h1.far (p := ⟨g, i, none⟩) (fun e => hq e.symm) u, h2⟩, fun e he => Te.in_mono (Te.in_off (h.kids e he) (Off.setc w g i u) (fun b hb e => by have := hb.1; omega)) fun b hb => ⟨hb.1, Nat.lt_of_lt_of_le hb.2.1 (Off.setc w g i u).size, hb.2.2⟩⟩
theorem Row.set {w : World} {q kl B i : Nat} {es : List Te} (h : Row w q kl B es) (hl : es.length = i) (hi : i < kl) (e : Te) (he : e.in_ (fun b => B ≤ b ∧ b < w.heap.size ∧ b ≠ q) w) {v0 v1 v2 v3 : Value} (hv : e.cells = [v0, v1, v2, v3]) : Row ((((w.setCell ⟨q, i * 4, none⟩ v0).setCell ⟨q, i * 4 + 1, none⟩ v1).setCell ⟨q, i * 4 + 2, none⟩ v2).setCell ⟨q, i * 4 + 3, none⟩ v3) q kl B (es ++ [e]) := by
  obtain ⟨cur, h1, h2, h3⟩ := h.blk
  have ho : Off (fun b => b = q) w ((((w.setCell ⟨q, i * 4, none⟩ v0).setCell ⟨q, i * 4 + 1, none⟩ v1).setCell ⟨q, i * 4 + 2, none⟩ v2).setCell ⟨q, i * 4 + 3, none⟩ v3) := (((Off.setc _ _ _ _).trans (Off.setc _ _ _ _)).trans (Off.setc _ _ _ _)).trans (Off.setc _ _ _ _)
  refine ⟨⟨_, (((h1.set_ (i * 4) v0).set_ (i * 4 + 1) v1).set_ (i * 4 + 2) v2).set_ (i * 4 + 3) v3, by simp [h2], fun r j x v hx hj => ?_⟩, fun x hx => ?_⟩
  · have hj4 : j < 4 := by rw [← Te.cells_len x]; exact (List.getElem?_eq_some_iff.1 hj).1
    rcases Nat.lt_or_ge r i with hr | hr
    · rw [List.getElem?_append_left (by omega)] at hx
      have := h3 r j x v hx hj
      simp only [Array.getElem?_setIfInBounds]
      rw [if_neg (by omega), if_neg (by omega), if_neg (by omega), if_neg (by omega)]
      exact this
    · have hrl := (List.getElem?_eq_some_iff.1 hx).1
      rw [List.length_append, List.length_singleton] at hrl
      obtain rfl : r = i := by omega
      rw [List.getElem?_append_right (by omega), hl, Nat.sub_self] at hx
      have hxe : e = x := by simpa using hx
      subst hxe
      rw [hv] at hj
      simp only [Array.getElem?_setIfInBounds, Array.size_setIfInBounds, h2]
      match j, hj4 with
      | 0, _ => rw [if_neg (by omega), if_neg (by omega), if_neg (by omega), if_pos (by omega), if_pos (by omega)]; simpa using hj
      | 1, _ => rw [if_neg (by omega), if_neg (by omega), if_pos (by omega), if_pos (by omega)]; simpa using hj
      | 2, _ => rw [if_neg (by omega), if_pos (by omega), if_pos (by omega)]; simpa using hj
      | 3, _ => rw [if_pos (by omega), if_pos (by omega)]; simpa using hj
  · have : x.in_ (fun b => B ≤ b ∧ b < w.heap.size ∧ b ≠ q) w := by
      rcases List.mem_append.1 hx with hx | hx
      · exact h.kids x hx
      · rw [List.mem_singleton.1 hx]; exact he
    exact Te.in_mono (Te.in_off this ho (fun b hb e => hb.2.2 e)) fun b hb => ⟨hb.1, Nat.lt_of_lt_of_le hb.2.1 ho.size, hb.2.2⟩
theorem Row.at_ {w : World} {q kl B : Nat} {es : List Te} (h : Row w q kl B es) (hq : B ≤ q) : Ty.At (fun b => B ≤ b ∧ b < w.heap.size) w (some ⟨q, 0, none⟩) (es.map Te.t) := by
  obtain ⟨cur, h1, h2, h3⟩ := h.blk
  refine .mk q 0 _ (fun r => (es[r]?.map Te.A).getD none) (fun r => (es[r]?.map Te.c).getD 0) ⟨hq, h1.lt⟩ h1.lt (fun r t ht => ?_) fun r t ht => ?_
  · rw [List.getElem?_map] at ht
    cases he : es[r]? with
    | none => rw [he] at ht; cases ht
    | some e =>
      rw [he] at ht
      cases ht
      obtain ⟨_, k2, k3, k4⟩ := h.kids e (List.mem_of_getElem? he)
      refine ⟨fun j u hj => ?_, k2, k3, k4⟩
      rw [Nat.zero_add, h1.cell]
      exact h3 r j e u he hj
  · rw [List.getElem?_map] at ht
    cases he : es[r]? with
    | none => rw [he] at ht; cases ht
    | some e =>
      rw [he] at ht
      cases ht
      exact (h.kids e (List.mem_of_getElem? he)).1.mono fun b hb => ⟨hb.1, hb.2.1⟩
/-- Between the rounds of through. -/
structure TrI (w wr : World) (k : Nat) (nm : List UInt8) (n : Int) (A : Option Addr) (kl c q : Nat) (us : List Ty) (i : Nat) : Prop where
  box : Blk wr w.heap.size 24 #[.int .u8 (k : Int), .string (str nm), .int .i64 n, .slice A kl c]
  res : Blk wr (w.heap.size + 1) 24 #[.int .u8 0, .string ⟨#[]⟩, .int .i64 0, .slice none 0 0]
  bel : Below w.heap.size w wr
  ge : w.heap.size + 2 ≤ q
  row : ∃ es : List Te, es.map Te.t = us.take i ∧ es.length = i ∧ Row wr q kl (w.heap.size + 2) es
theorem TrI.start {w wE wm : World} {k : Nat} {nm : List UInt8} {n : Int} {A : Option Addr} {kl c : Nat} {us : List Ty} (h : Blk wE w.heap.size 24 #[.int .u8 (k : Int), .string (str nm), .int .i64 n, .slice A kl c] ∧ Blk wE (w.heap.size + 1) 24 #[.int .u8 0, .string ⟨#[]⟩, .int .i64 0, .slice none 0 0] ∧ Below w.heap.size w wE) (hm : wE.alloc (.cells (madeCells #[.int .u8 0, .string ⟨#[]⟩, .int .i64 0, .slice none 0 0] (kl * 4)) 24) = wm) : TrI w wm k nm n A kl c wE.heap.size us 0 := by
  subst hm
  exact ⟨h.1.alloc _, h.2.1.alloc _, h.2.2.alloc h.2.2.size _, h.2.1.lt, [], by simp, rfl, ⟨_, Blk.new _ _ _, size_madeCells _ _, fun r j e v hr => by cases r <;> cases hr⟩, fun e he => by cases he⟩
theorem TrI.fin {w wr : World} {k : Nat} {nm : List UInt8} {n : Int} {A : Option Addr} {kl c q i : Nat} {us : List Ty} (h : TrI w wr k nm n A kl c q us i) (hl : us.length = i) : Ty.At (fun b => w.heap.size + 2 ≤ b ∧ b < wr.heap.size) wr (some ⟨q, 0, none⟩) us := by
  obtain ⟨es, h1, h2, h3⟩ := h.row
  have := h3.at_ h.ge
  rwa [h1, List.take_of_length_le (by omega)] at this
theorem TrI.next {w wr w6 w7 : World} {k : Nat} {nm : List UInt8} {n : Int} {A A2 : Option Addr} {kl c q i ul c2 : Nat} {us : List Ty} {u : Ty} (h : TrI w wr k nm n A kl c q us i) (hb : Below wr.heap.size wr w6) (hM : Made w6 w7 u A2 c2) (hu : us[i]? = some u) (hul : u.ks.length = ul) (hi : i < kl) :
    (∃ p, w7.cell? ⟨q, i * 4, none⟩ = some p) ∧ (∃ p, w7.cell? ⟨q, i * 4 + 1, none⟩ = some p) ∧ (∃ p, w7.cell? ⟨q, i * 4 + 2, none⟩ = some p) ∧ (∃ p, w7.cell? ⟨q, i * 4 + 3, none⟩ = some p) ∧ (∀ j, w7.frozen? ⟨q, j, none⟩ = false) ∧
    TrI w ((((w7.setCell ⟨q, i * 4, none⟩ (.int .u8 (u.k : Int))).setCell ⟨q, i * 4 + 1, none⟩ (.string (str u.nm))).setCell ⟨q, i * 4 + 2, none⟩ (.int .i64 u.n)).setCell ⟨q, i * 4 + 3, none⟩ (.slice A2 ul c2)) k nm n A kl c q us (i + 1) ∧ w7.heap.size ≤ ((((w7.setCell ⟨q, i * 4, none⟩ (.int .u8 (u.k : Int))).setCell ⟨q, i * 4 + 1, none⟩ (.string (str u.nm))).setCell ⟨q, i * 4 + 2, none⟩ (.int .i64 u.n)).setCell ⟨q, i * 4 + 3, none⟩ (.slice A2 ul c2)).heap.size := by
  have hb7 : Below wr.heap.size wr w7 := hb.trans (hM.bel.mono hb.size)
  obtain ⟨es, h1, h2, h3⟩ := h.row
  have h7 := h3.bel hb7
  obtain ⟨cur, k1, k2, k3⟩ := h7.blk
  have hg := h.ge
  have hc : ∀ j, j < kl * 4 → ∃ p, w7.cell? ⟨q, j, none⟩ = some p := fun j hj => ⟨_, (k1.cell j).trans (Array.getElem?_eq_getElem (by rw [k2]; exact hj))⟩
  have hq6 : q < w6.heap.size := by obtain ⟨cr, c1, _⟩ := h3.blk; have := c1.lt; have := hb.size; omega
  have ho : Off (fun b => b = q) w7 ((((w7.setCell ⟨q, i * 4, none⟩ (.int .u8 (u.k : Int))).setCell ⟨q, i * 4 + 1, none⟩ (.string (str u.nm))).setCell ⟨q, i * 4 + 2, none⟩ (.int .i64 u.n)).setCell ⟨q, i * 4 + 3, none⟩ (.slice A2 ul c2)) := (((Off.setc _ _ _ _).trans (Off.setc _ _ _ _)).trans (Off.setc _ _ _ _)).trans (Off.setc _ _ _ _)
  have hs7 := hb7.size
  have hs6 := hb.size
  have hws := h.bel.size
  refine ⟨hc _ (by omega), hc _ (by omega), hc _ (by omega), hc _ (by omega), fun j => k1.frozen j, ⟨(h.box.below hb7 h.box.lt).off ho (by omega), (h.res.below hb7 h.res.lt).off ho (by omega), (h.bel.trans (hb7.mono hws)).trans (ho.below (by omega) (fun g e => by omega)), hg, es ++ [⟨u, A2, c2⟩], ?_, by rw [List.length_append, h2]; rfl, ?_⟩, ho.size⟩
  · rw [List.map_append, h1, List.take_add_one, hu]; rfl
  · exact h7.set h2 hi ⟨u, A2, c2⟩ ⟨hM.at_.mono fun b hb' => ⟨by have := hb'.1; have := h.res.lt; omega, hb'.2, by have := hb'.1; omega⟩, hM.ok, hM.len, hM.cap⟩ (by unfold Te.cells Ty.cells; dsimp only; rw [hul])
theorem run_mkT (n : Nat) (hn : n ≤ 100000) (w : World) :
    (Instr.makeSlice 22 (.int .i64 (n : Int)) (.int .i64 (n : Int))).run Try.prog w = .ok (.slice (some ⟨w.heap.size, 0, none⟩) n n) (w.alloc (.cells (madeCells #[.int .u8 0, .string ⟨#[]⟩, .int .i64 0, .slice none 0 0] (n * 4)) 24)) := by
  have hI : (Try.prog.info? 24).map (fun i => (i.zero, i.size, i.bytes)) = some (some (.agg #[.int .u8 0, .string ⟨#[]⟩, .int .i64 0, .slice none 0 0]), 4, 56) := by kernel_rfl
  obtain ⟨i0, hi, hz0, hz1, hz2⟩ := info_parts hI
  have h := run_make (P := Try.prog) w 22 24 i0 (.agg #[.int .u8 0, .string ⟨#[]⟩, .int .i64 0, .slice none 0 0]) Try.underlying22 hi hz0 .i64 .i64 (n : Int) (n : Int) (by omega) (by omega) (by rw [hz2]; omega) (by omega)
  simpa [hz1, Value.cells] using h
set_option maxRecDepth 20000 in
set_option maxHeartbeats 8000000 in
theorem through_any {F : Nat → Prop} (fv : Nat) (hE : Enters Try.prog fv) (caps : Array Value) (pl : Int → Option Ty) (J : World → Prop) (NS : Int → Prop)
    (hJ : ∀ w w', J w → Below w.heap.size w w' → J w')
    (hcb : ∀ n w, NS n → J w → Calls Try.prog fv (#[.int .i64 n] ++ caps) w fun e w' => Below w.heap.size w w' ∧ ((pl n = none ∧ e = .returned (.tuple #[.agg #[.int .u8 0, .string ⟨#[]⟩, .int .i64 0, .slice none 0 0], .bool false])) ∨ ∃ u A c, pl n = some u ∧ e = .returned (.tuple #[u.val A c, .bool true]) ∧ Made w w' u A c)) :
    ∀ (t : Ty) (A : Option Addr) (c : Nat) (w : World), Ty.At F w A t.ks → t.ks.length ≤ c → c ≤ maxLen → t.ok → t.parts ≤ 100000 → (∀ m ∈ t.allnums, NS m) → J w →
    Calls Try.prog 34 #[t.val A c, .func (.func fv) #[] caps] w fun e w' => ∃ A2 c2, e = .returned ((thr pl t).val A2 c2) ∧ Made w w' (thr pl t) A2 c2 := Ty.ind fun k nm n ks ih A c w hA hc hm hok hp hN hJ0 => by
  have hA : Ty.At F w A ks := hA
  have hc : ks.length ≤ c := hc
  rw [Ty.parts] at hp
  have hkp0 := Ty.partss_len ks
  obtain ⟨kl, hkl⟩ : ∃ kl, ks.length = kl := ⟨_, rfl⟩
  rw [hkl] at hc hkp0
  have hmx : kl ≤ 100000 := by omega
  obtain ⟨us, hus⟩ : ∃ us, thrs pl ks = us := ⟨_, rfl⟩
  have hul0 : us.length = kl := by rw [← hus, thrs_map, List.length_map, hkl]
  have HUS := Lib.hid (And.intro hul0 (show us = ks.map (thr pl) by rw [← hus, thrs_map]))
  have HOK : Hid ((Ty.node k nm n us).ok) := Lib.hid hok
  have HCAP : Hid (kl ≤ maxLen) := Lib.hid (by omega)
  have HMK : Hid (∀ W : World, (Instr.makeSlice 22 (.int .i64 (kl : Int)) (.int .i64 (kl : Int))).run Try.prog W = .ok (.slice (some ⟨W.heap.size, 0, none⟩) kl kl) (W.alloc (.cells (madeCells #[.int .u8 0, .string ⟨#[]⟩, .int .i64 0, .slice none 0 0] (kl * 4)) 24))) := Lib.hid fun W => run_mkT kl hmx W
  have HH := Lib.hid (And.intro hJ hcb)
  have HJ0 := Lib.hid hJ0
  have HAW := Lib.hid hA
  have HK := Lib.hid (And.intro hkl (And.intro ih hp))
  have HN : Hid (∀ m ∈ Ty.allnumss ks, NS m) := Lib.hid fun m hm => hN m (by rw [Ty.allnums]; exact List.mem_append_right _ hm)
  have HN1 : Hid (k = 1 → NS n) := Lib.hid fun e => hN n (by rw [Ty.allnums, if_pos e]; exact List.mem_append_left _ (List.mem_singleton.2 rfl))
  have hEn : ∀ (args : Array Value) (w : World), (callFunc fv args).run Try.prog w = .ok (.enter fv args) w := hE
  have hk1 : (((k : Nat) : Int) == 1) = decide (k = 1) := by
    by_cases e : k = 1
    · subst e; rfl
    · rw [decide_eq_false e]; simp; omega
  obtain ⟨w0, hw0⟩ : ∃ w0, (w.alloc (.cells #[.int .u8 (k : Int), .string (str nm), .int .i64 n, .slice A kl c] 24)).alloc (.cells #[.int .u8 0, .string ⟨#[]⟩, .int .i64 0, .slice none 0 0] 24) = w0 := ⟨_, rfl⟩
  have hb0 : Below w.heap.size w w0 := by rw [← hw0]; exact ((Below.refl _ _).alloc (Nat.le_refl _) _).alloc (by simp) _
  have hB0 : Blk w0 w.heap.size 24 #[.int .u8 (k : Int), .string (str nm), .int .i64 n, .slice A kl c] := by rw [← hw0]; exact (Blk.new _ _ _).alloc _
  have hR0 : Blk w0 (w.heap.size + 1) 24 #[.int .u8 0, .string ⟨#[]⟩, .int .i64 0, .slice none 0 0] := by
    have := Blk.new (w.alloc (.cells #[.int .u8 (k : Int), .string (str nm), .int .i64 n, .slice A kl c] 24)) 24 #[.int .u8 0, .string ⟨#[]⟩, .int .i64 0, .slice none 0 0]
    rw [World.size_alloc] at this
    rw [← hw0]; exact this
  have d0 := hB0.cell 0
  have d1 := hB0.cell 1
  have d2 := hB0.cell 2
  have d3 := hB0.cell 3
  simp only [List.getElem?_toArray, List.getElem?_cons_zero, List.getElem?_cons_succ] at d0 d1 d2 d3
  have HB0 := Lib.hid (And.intro hB0 (And.intro hR0 hb0))
  show Calls Try.prog 34 #[.agg #[.int .u8 (k : Int), .string (str nm), .int .i64 n, .slice A ks.length c], .func (.func fv) #[] caps] w _
  rw [hkl]
  clear hb0 hB0 hR0 hJ0 hA hN hkl ih hm hc hJ hcb hus hul0 hok hp hkp0 hE
  by_cases e1 : k = 1
  · subst e1
    replace hw0 : (w.alloc (.cells #[.int .u8 1, .string (str nm), .int .i64 n, .slice A kl c] 24)).alloc (.cells #[.int .u8 0, .string ⟨#[]⟩, .int .i64 0, .slice none 0 0] 24) = w0 := hw0
    replace d0 : w0.cell? ⟨w.heap.size, 0, none⟩ = some (.int .u8 1) := d0
    replace HB0 : Hid (Blk w0 w.heap.size 24 #[.int .u8 1, .string (str nm), .int .i64 n, .slice A kl c] ∧ Blk w0 (w.heap.size + 1) 24 #[.int .u8 0, .string ⟨#[]⟩, .int .i64 0, .slice none 0 0] ∧ Below w.heap.size w w0) := HB0
    have HC0 := HH.out.2 n w0 (HN1.out rfl) (HH.out.1 _ _ HJ0.out HB0.out.2.2)
    clear hk1 HN1
    cases hpl : pl n with
    | none =>
      have HT : thr pl (.node 1 nm n ks) = .node 1 nm n us := by rw [thr, if_pos rfl, hpl, Option.getD_none, thrs_map, HUS.out.2]
      rw [HT]
      show Calls Try.prog 34 #[.agg #[.int .u8 1, .string (str nm), .int .i64 n, .slice A kl c], .func (.func fv) #[] caps] w fun e w' => ∃ A2 c2, e = .returned (.agg #[.int .u8 1, .string (str nm), .int .i64 n, .slice A2 us.length c2]) ∧ Made w w' (.node 1 nm n us) A2 c2
      rw [HUS.out.1]
      have HC : Hid (Calls Try.prog fv (#[.int .i64 n] ++ caps) w0 fun e w' => Below w0.heap.size w0 w' ∧ e = .returned (.tuple #[.agg #[.int .u8 0, .string ⟨#[]⟩, .int .i64 0, .slice none 0 0], .bool false])) := Lib.hid (HC0.mono fun e w' h => by
        rcases h.2 with h2 | ⟨u, A2, c2, h2, _⟩
        · exact ⟨h.1, h2.2⟩
        · rw [hpl] at h2; cases h2)
      clear HC0 HT hpl
      go_enter Try.func34, Try.ntmps34
      go_upto_region 1 with fail
      (try rw [hw0])
      clear hw0
      go_wp2_with fail
      refine HC.out.mono ?_
      rintro e w7 ⟨hb7, rfl⟩
      obtain ⟨wE, hwE⟩ : ∃ wE, w7.alloc (.cells #[.int .u8 0, .string ⟨#[]⟩, .int .i64 0, .slice none 0 0] 24) = wE := ⟨_, rfl⟩
      have hbE : Below w0.heap.size w0 wE := by rw [← hwE]; exact hb7.alloc hb7.size _
      have HE : Hid (Blk wE w.heap.size 24 #[.int .u8 1, .string (str nm), .int .i64 n, .slice A kl c] ∧ Blk wE (w.heap.size + 1) 24 #[.int .u8 0, .string ⟨#[]⟩, .int .i64 0, .slice none 0 0] ∧ Below w.heap.size w wE) := Lib.hid ⟨HB0.out.1.below hbE HB0.out.1.lt, HB0.out.2.1.below hbE HB0.out.2.1.lt, HB0.out.2.2.trans (hbE.mono HB0.out.2.2.size)⟩
      have HWE := Lib.hid hwE
      clear hb7 hbE HB0 HC d0 d1 d2 d3 hwE
      go_upto_region 5 with fail
      rw [HWE.out]
      clear HWE
      by_cases hk0 : kl = 0
      · have hkn : us = [] := List.eq_nil_of_length_eq_zero (by rw [HUS.out.1]; exact hk0)
        subst hk0
        have c3 := HE.out.1.cell 3
        simp only [List.getElem?_toArray, List.getElem?_cons_zero, List.getElem?_cons_succ] at c3
        have hd0 : decide ((0 : Int) < 0) = false := rfl
        go_upto_region 9 with fail
        go_loopw [33] (fun iv wr => iv = .int .i64 ((0 : Nat) : Int) ∧ wE = wr) (fun iv _ => 0)
        case atStart => exact ⟨rfl, rfl⟩
        case round =>
          obtain ⟨rfl, rfl⟩ := hrel
          clear c3
          have b0 := HE.out.1.cell 0
          have b1 := HE.out.1.cell 1
          have b2 := HE.out.1.cell 2
          have b3 := HE.out.1.cell 3
          have bf := HE.out.1.frozen
          have r0 := HE.out.2.1.cell 0
          have r1 := HE.out.2.1.cell 1
          have r2 := HE.out.2.1.cell 2
          have r3 := HE.out.2.1.cell 3
          have rf := HE.out.2.1.frozen
          simp only [List.getElem?_toArray, List.getElem?_cons_zero, List.getElem?_cons_succ] at b0 b1 b2 b3 r0 r1 r2 r3
          obtain ⟨wy, hwy⟩ : ∃ wy, wE.setCell ⟨w.heap.size, 3, none⟩ (.slice none 0 0) = wy := ⟨_, rfl⟩
          have hBy := HE.out.1.set_ 3 (.slice none 0 0)
          rw [hwy] at hBy
          have hRy : Blk wy (w.heap.size + 1) 24 #[.int .u8 0, .string ⟨#[]⟩, .int .i64 0, .slice none 0 0] := by rw [← hwy]; exact HE.out.2.1.far (p := ⟨w.heap.size, 3, none⟩) (by show w.heap.size + 1 ≠ w.heap.size; omega) _
          have hoy : Off (fun g => g = w.heap.size) wE wy := by rw [← hwy]; exact Off.setc _ _ _ _
          have a0 := hBy.cell 0
          have a1 := hBy.cell 1
          have a2 := hBy.cell 2
          have a3 := hBy.cell 3
          have q0 := hRy.cell 0
          have q1 := hRy.cell 1
          have q2 := hRy.cell 2
          have q3 := hRy.cell 3
          have qf := hRy.frozen
          simp only [List.setIfInBounds_toArray, List.set_cons_zero, List.set_cons_succ, List.getElem?_toArray, List.getElem?_cons_zero, List.getElem?_cons_succ] at a0 a1 a2 a3 q0 q1 q2 q3
          have HY := Lib.hid (And.intro hRy hoy)
          clear hBy hRy hoy
          go_upto_region 14 with fail
          (try rw [hwy])
          clear hwy b0 b1 b2 b3 bf r0 r1 r2 r3 rf
          go_wp2_with fail
          have HB9 := HY.out.1.set4 (.int .u8 1) (.string (str nm)) (.int .i64 n) (.slice none 0 0)
          refine bodyPost_ret (results_cell_row rfl _ _ (w.heap.size + 1) 24 _ (0, 0) _ rfl HB9 Try.underlying24 rfl (by kernel_rfl)) rfl ?_
          have ho := (HY.out.2.mono (G := fun g => g = w.heap.size ∨ g = w.heap.size + 1) fun g _ e => .inl e).trans ((off4 wy (w.heap.size + 1) (.int .u8 1) (.string (str nm)) (.int .i64 n) (.slice none 0 0)).mono (G := fun g => g = w.heap.size ∨ g = w.heap.size + 1) fun g _ e => .inr e)
          exact ⟨none, 0, rfl, by rw [hkn]; exact ⟨Nat.le_refl _, Nat.zero_le _, .nil _, HE.out.2.2.trans (ho.below HE.out.2.2.size (fun g e => by rcases e with e | e <;> omega)), HOK.out⟩⟩
      · have hkp : 0 < kl := by omega
        have c3 := HE.out.1.cell 3
        simp only [List.getElem?_toArray, List.getElem?_cons_zero, List.getElem?_cons_succ] at c3
        have hd0 : decide ((kl : Int) > 0) = true := by simp; omega
        have hd0n : decide (0 < kl) = true := by simp; omega
        have hmk := HMK.out wE
        obtain ⟨wm, hwm⟩ : ∃ wm, wE.alloc (.cells (madeCells #[.int .u8 0, .string ⟨#[]⟩, .int .i64 0, .slice none 0 0] (kl * 4)) 24) = wm := ⟨_, rfl⟩
        rw [hwm] at hmk
        have hIm := TrI.start (k := 1) (us := us) HE.out hwm
        obtain ⟨q, hq⟩ : ∃ q, wE.heap.size = q := ⟨_, rfl⟩
        rw [hq] at hmk hIm
        have m3 := hIm.box.cell 3
        simp only [List.getElem?_toArray, List.getElem?_cons_zero, List.getElem?_cons_succ] at m3
        have HIM := Lib.hid hIm
        clear hIm hq hwm HE
        go_upto_region 9 with fail
        clear c3 m3 hmk
        go_loopw [33] (fun iv wr => ∃ i : Nat, i ≤ kl ∧ iv = .int .i64 (i : Int) ∧ Hid (TrI w wr 1 nm n A kl c q us i)) (fun iv _ => kl - (intOf iv).toNat)
        case atStart => exact ⟨0, Nat.zero_le _, rfl, HIM⟩
        case round =>
          clear HIM
          obtain ⟨i, hi, rfl, hX⟩ := hrel
          by_cases hli : i < kl
          · have hd : decide ((i : Int) < (kl : Int)) = true := by simpa using hli
            obtain ⟨t, ht⟩ : ∃ t, ks[i]? = some t := ⟨_, List.getElem?_eq_getElem (by rw [HK.out.1]; exact hli)⟩
            obtain ⟨b, off, A', c', rfl, _, hbl, z0, z1, z2, z3, hok, hlc, hcm, hAt⟩ := (HAW.out.bel hX.out.bel).get ht
            obtain ⟨tl, htl⟩ : ∃ tl, t.ks.length = tl := ⟨_, rfl⟩
            obtain ⟨w6, hw6⟩ : ∃ w6, wr.alloc (.cells #[.int .u8 (t.k : Int), .string (str t.nm), .int .i64 t.n, .slice A' tl c'] 24) = w6 := ⟨_, rfl⟩
            have hb6 : Below wr.heap.size wr w6 := by rw [← hw6]; exact (Below.refl _ _).alloc (Nat.le_refl _) _
            have hB6 : Blk w6 wr.heap.size 24 #[.int .u8 (t.k : Int), .string (str t.nm), .int .i64 t.n, .slice A' tl c'] := by rw [← hw6]; exact Blk.new _ _ _
            have y0 := hB6.cell 0
            have y1 := hB6.cell 1
            have y2 := hB6.cell 2
            have y3 := hB6.cell 3
            simp only [List.getElem?_toArray, List.getElem?_cons_zero, List.getElem?_cons_succ] at y0 y1 y2 y3
            obtain ⟨u, hu⟩ : ∃ u, us[i]? = some u := ⟨_, List.getElem?_eq_getElem (by rw [HUS.out.1]; exact hli)⟩
            have hut : thr pl t = u := by
              rw [HUS.out.2, List.getElem?_map, ht] at hu
              exact Option.some.inj hu
            have HC := HK.out.2.1 t (List.mem_of_getElem? ht) A' c' w6 (hAt.bel hb6) hlc hcm hok (by have := Ty.partss_mem (List.mem_of_getElem? ht); have := HK.out.2.2; omega) (fun m hm => HN.out m (Ty.allnums_mem (List.mem_of_getElem? ht) hm)) (HH.out.1 _ _ HJ0.out (hX.out.bel.trans (hb6.mono hX.out.bel.size)))
            unfold Ty.val at HC
            rw [hut] at HC
            rw [htl] at HC z3
            obtain ⟨ul, hul⟩ : ∃ ul, u.ks.length = ul := ⟨_, rfl⟩
            rw [hul] at HC
            replace HC := Lib.hid HC
            have HX6 : Hid (TrI w wr 1 nm n (some ⟨b, off, none⟩) kl c q us i ∧ Below wr.heap.size wr w6 ∧ us[i]? = some u ∧ u.ks.length = ul) := Lib.hid ⟨hX.out, hb6, hu, hul⟩
            clear ht hAt hlc hcm htl hb6 hB6 hX hbl hok hu hut hul
            go_upto_region 11 with fail
            (try rw [hw6])
            clear hw6 z0 z1 z2 z3
            go_wp2_with fail
            refine HC.out.mono ?_
            rintro e w7 ⟨A2, c2, rfl, hM⟩
            obtain ⟨p0, p1, p2, p3, pf, hnx⟩ := HX6.out.1.next HX6.out.2.1 hM HX6.out.2.2.1 HX6.out.2.2.2 hli
            obtain ⟨pv0, hp0⟩ := p0
            obtain ⟨pv1, hp1⟩ := p1
            obtain ⟨pv2, hp2⟩ := p2
            obtain ⟨pv3, hp3⟩ := p3
            obtain ⟨wz, hwz⟩ : ∃ wz, (((w7.setCell ⟨q, i * 4, none⟩ (.int .u8 (u.k : Int))).setCell ⟨q, i * 4 + 1, none⟩ (.string (str u.nm))).setCell ⟨q, i * 4 + 2, none⟩ (.int .i64 u.n)).setCell ⟨q, i * 4 + 3, none⟩ (.slice A2 ul c2) = wz := ⟨_, rfl⟩
            rw [hwz] at hnx
            have HNX : Hid (TrI w wz 1 nm n (some ⟨b, off, none⟩) kl c q us (i + 1)) := Lib.hid hnx.1
            have HWZ := Lib.hid hwz
            clear hM hnx HC HX6 y0 y1 y2 y3 hwz
            go_upto_region 12 with fail
            (try rw [HWZ.out])
            clear hp0 hp1 hp2 hp3 pf HWZ
            go_wp2_with fail
            go_roundw
            case rel => exact ⟨i + 1, by omega, by go_num, HNX⟩
            case measure => simp [intOf]; omega
          · obtain rfl : kl = i := by omega
            have hd : decide ((kl : Int) < (kl : Int)) = false := by simp
            have HF := Lib.hid (hX.out.fin HUS.out.1)
            have HE : Hid (Blk wr w.heap.size 24 #[.int .u8 1, .string (str nm), .int .i64 n, .slice A kl c] ∧ Blk wr (w.heap.size + 1) 24 #[.int .u8 0, .string ⟨#[]⟩, .int .i64 0, .slice none 0 0] ∧ Below w.heap.size w wr) := Lib.hid ⟨hX.out.box, hX.out.res, hX.out.bel⟩
            clear hX
            have b0 := HE.out.1.cell 0
            have b1 := HE.out.1.cell 1
            have b2 := HE.out.1.cell 2
            have b3 := HE.out.1.cell 3
            have bf := HE.out.1.frozen
            have r0 := HE.out.2.1.cell 0
            have r1 := HE.out.2.1.cell 1
            have r2 := HE.out.2.1.cell 2
            have r3 := HE.out.2.1.cell 3
            have rf := HE.out.2.1.frozen
            simp only [List.getElem?_toArray, List.getElem?_cons_zero, List.getElem?_cons_succ] at b0 b1 b2 b3 r0 r1 r2 r3
            obtain ⟨wy, hwy⟩ : ∃ wy, wr.setCell ⟨w.heap.size, 3, none⟩ (.slice (some ⟨q, 0, none⟩) kl kl) = wy := ⟨_, rfl⟩
            have hBy := HE.out.1.set_ 3 (.slice (some ⟨q, 0, none⟩) kl kl)
            rw [hwy] at hBy
            have hRy : Blk wy (w.heap.size + 1) 24 #[.int .u8 0, .string ⟨#[]⟩, .int .i64 0, .slice none 0 0] := by rw [← hwy]; exact HE.out.2.1.far (p := ⟨w.heap.size, 3, none⟩) (by show w.heap.size + 1 ≠ w.heap.size; omega) _
            have hoy : Off (fun g => g = w.heap.size) wr wy := by rw [← hwy]; exact Off.setc _ _ _ _
            have a0 := hBy.cell 0
            have a1 := hBy.cell 1
            have a2 := hBy.cell 2
            have a3 := hBy.cell 3
            have q0 := hRy.cell 0
            have q1 := hRy.cell 1
            have q2 := hRy.cell 2
            have q3 := hRy.cell 3
            have qf := hRy.frozen
            simp only [List.setIfInBounds_toArray, List.set_cons_zero, List.set_cons_succ, List.getElem?_toArray, List.getElem?_cons_zero, List.getElem?_cons_succ] at a0 a1 a2 a3 q0 q1 q2 q3
            have HY := Lib.hid (And.intro hRy hoy)
            clear hBy hRy hoy
            go_upto_region 14 with fail
            (try rw [hwy])
            clear hwy b0 b1 b2 b3 bf r0 r1 r2 r3 rf
            go_wp2_with fail
            have HB9 := HY.out.1.set4 (.int .u8 1) (.string (str nm)) (.int .i64 n) (.slice (some ⟨q, 0, none⟩) kl kl)
            refine bodyPost_ret (results_cell_row rfl _ _ (w.heap.size + 1) 24 _ (0, 0) _ rfl HB9 Try.underlying24 rfl (by kernel_rfl)) rfl ?_
            have ho := (HY.out.2.mono (G := fun g => g = w.heap.size ∨ g = w.heap.size + 1) fun g _ e => .inl e).trans ((off4 wy (w.heap.size + 1) (.int .u8 1) (.string (str nm)) (.int .i64 n) (.slice (some ⟨q, 0, none⟩) kl kl)).mono (G := fun g => g = w.heap.size ∨ g = w.heap.size + 1) fun g _ e => .inr e)
            refine ⟨some ⟨q, 0, none⟩, kl, rfl, ⟨by show us.length ≤ kl; rw [HUS.out.1]; exact Nat.le_refl _, HCAP.out, (HF.out.off ho (fun g h e => by rcases e with e | e <;> have := h.1 <;> omega)).mono (fun g h => ⟨by have := h.1; omega, Nat.lt_of_lt_of_le h.2 ho.size⟩), HE.out.2.2.trans (ho.below HE.out.2.2.size (fun g e => by rcases e with e | e <;> omega)), HOK.out⟩⟩
    | some u =>
      have HT : thr pl (.node 1 nm n ks) = u := by rw [thr, if_pos rfl, hpl, Option.getD_some]
      rw [HT]
      show Calls Try.prog 34 #[.agg #[.int .u8 1, .string (str nm), .int .i64 n, .slice A kl c], .func (.func fv) #[] caps] w _
      obtain ⟨ul, hul⟩ : ∃ ul, u.ks.length = ul := ⟨_, rfl⟩
      have HC : Hid (Calls Try.prog fv (#[.int .i64 n] ++ caps) w0 fun e w' => ∃ A2 c2, e = .returned (.tuple #[.agg #[.int .u8 (u.k : Int), .string (str u.nm), .int .i64 u.n, .slice A2 ul c2], .bool true]) ∧ Made w0 w' u A2 c2) := Lib.hid (HC0.mono fun e w' h => by
        rcases h.2 with h2 | ⟨u', A2, c2, h2, h3, h4⟩
        · rw [hpl] at h2; cases h2.1
        · rw [hpl] at h2
          cases h2
          unfold Ty.val at h3
          rw [hul] at h3
          exact ⟨A2, c2, h3, h4⟩)
      have HUL := Lib.hid hul
      clear HC0 HT hpl hul
      go_enter Try.func34, Try.ntmps34
      go_upto_region 1 with fail
      (try rw [hw0])
      clear hw0
      go_wp2_with fail
      refine HC.out.mono ?_
      rintro e w7 ⟨A2, c2, rfl, hM⟩
      obtain ⟨w8, hw8⟩ : ∃ w8, w7.alloc (.cells #[.int .u8 (u.k : Int), .string (str u.nm), .int .i64 u.n, .slice A2 ul c2] 24) = w8 := ⟨_, rfl⟩
      have hb8 : Below w7.heap.size w7 w8 := by rw [← hw8]; exact (Below.refl _ _).alloc (Nat.le_refl _) _
      have hB8 : Blk w8 w7.heap.size 24 #[.int .u8 (u.k : Int), .string (str u.nm), .int .i64 u.n, .slice A2 ul c2] := by rw [← hw8]; exact Blk.new _ _ _
      have hR8 : Blk w8 (w.heap.size + 1) 24 #[.int .u8 0, .string ⟨#[]⟩, .int .i64 0, .slice none 0 0] := (HB0.out.2.1.below hM.bel HB0.out.2.1.lt).below hb8 (Nat.lt_of_lt_of_le HB0.out.2.1.lt hM.bel.size)
      have y0 := hB8.cell 0
      have y1 := hB8.cell 1
      have y2 := hB8.cell 2
      have y3 := hB8.cell 3
      simp only [List.getElem?_toArray, List.getElem?_cons_zero, List.getElem?_cons_succ] at y0 y1 y2 y3
      have r0 := hR8.cell 0
      have r1 := hR8.cell 1
      have r2 := hR8.cell 2
      have r3 := hR8.cell 3
      simp only [List.getElem?_toArray, List.getElem?_cons_zero, List.getElem?_cons_succ] at r0 r1 r2 r3
      have rf := hR8.frozen
      have HR := Lib.hid (And.intro hR8 (And.intro hb8 hM))
      have HW8 := Lib.hid hw8
      clear hM hB8 hR8 hb8 HC d0 d1 d2 d3 hw8
      go_upto_region 3 with fail
      rw [HW8.out]
      clear HW8
      go_wp2_with fail
      have HB9 := HR.out.1.set4 (.int .u8 (u.k : Int)) (.string (str u.nm)) (.int .i64 u.n) (.slice A2 ul c2)
      refine bodyPost_ret (results_cell_row rfl _ _ (w.heap.size + 1) 24 _ (0, 0) _ rfl HB9 Try.underlying24 rfl (by kernel_rfl)) rfl ?_
      have ho := off4 w8 (w.heap.size + 1) (.int .u8 (u.k : Int)) (.string (str u.nm)) (.int .i64 u.n) (.slice A2 ul c2)
      have h1 := HB0.out.2.1.lt
      have h2 := HR.out.2.2.bel.size
      have h3 := HR.out.2.1.size
      have h4 := HB0.out.2.2.size
      exact ⟨A2, c2, by unfold Ty.val; rw [HUL.out], ⟨HR.out.2.2.len, HR.out.2.2.cap, ((HR.out.2.2.at_.bel HR.out.2.1).off ho (fun g h e => by have := h.1; omega)).mono (fun g h => ⟨by have := h.1; omega, by have := h.2; have := ho.size; omega⟩), ((HB0.out.2.2.trans (HR.out.2.2.bel.mono h4)).trans (HR.out.2.1.mono (by omega))).trans (ho.below (by omega) (fun g e => by omega)), HR.out.2.2.ok⟩⟩
  · have HT : thr pl (.node k nm n ks) = .node k nm n us := by rw [thr, if_neg e1, thrs_map, HUS.out.2]
    rw [HT]
    show Calls Try.prog 34 #[.agg #[.int .u8 (k : Int), .string (str nm), .int .i64 n, .slice A kl c], .func (.func fv) #[] caps] w fun e w' => ∃ A2 c2, e = .returned (.agg #[.int .u8 (k : Int), .string (str nm), .int .i64 n, .slice A2 us.length c2]) ∧ Made w w' (.node k nm n us) A2 c2
    rw [HUS.out.1]
    rw [decide_eq_false e1] at hk1
    clear HN1 HT
    go_enter Try.func34, Try.ntmps34
    go_upto_region 1 with fail
    (try rw [hw0])
    clear hw0
    go_upto_region 5 with fail
    obtain ⟨wE, hwE⟩ : ∃ wE, w0 = wE := ⟨_, rfl⟩
    subst hwE
    have HE := HB0
    clear d0 d1 d2 d3 hk1 HB0
    by_cases hk0 : kl = 0
    · have hkn : us = [] := List.eq_nil_of_length_eq_zero (by rw [HUS.out.1]; exact hk0)
      subst hk0
      have c3 := HE.out.1.cell 3
      simp only [List.getElem?_toArray, List.getElem?_cons_zero, List.getElem?_cons_succ] at c3
      have hd0 : decide ((0 : Int) < 0) = false := rfl
      go_upto_region 9 with fail
      go_loopw [33] (fun iv wr => iv = .int .i64 ((0 : Nat) : Int) ∧ w0 = wr) (fun iv _ => 0)
      case atStart => exact ⟨rfl, rfl⟩
      case round =>
        obtain ⟨rfl, rfl⟩ := hrel
        clear c3
        have b0 := HE.out.1.cell 0
        have b1 := HE.out.1.cell 1
        have b2 := HE.out.1.cell 2
        have b3 := HE.out.1.cell 3
        have bf := HE.out.1.frozen
        have r0 := HE.out.2.1.cell 0
        have r1 := HE.out.2.1.cell 1
        have r2 := HE.out.2.1.cell 2
        have r3 := HE.out.2.1.cell 3
        have rf := HE.out.2.1.frozen
        simp only [List.getElem?_toArray, List.getElem?_cons_zero, List.getElem?_cons_succ] at b0 b1 b2 b3 r0 r1 r2 r3
        obtain ⟨wy, hwy⟩ : ∃ wy, w0.setCell ⟨w.heap.size, 3, none⟩ (.slice none 0 0) = wy := ⟨_, rfl⟩
        have hBy := HE.out.1.set_ 3 (.slice none 0 0)
        rw [hwy] at hBy
        have hRy : Blk wy (w.heap.size + 1) 24 #[.int .u8 0, .string ⟨#[]⟩, .int .i64 0, .slice none 0 0] := by rw [← hwy]; exact HE.out.2.1.far (p := ⟨w.heap.size, 3, none⟩) (by show w.heap.size + 1 ≠ w.heap.size; omega) _
        have hoy : Off (fun g => g = w.heap.size) w0 wy := by rw [← hwy]; exact Off.setc _ _ _ _
        have a0 := hBy.cell 0
        have a1 := hBy.cell 1
        have a2 := hBy.cell 2
        have a3 := hBy.cell 3
        have q0 := hRy.cell 0
        have q1 := hRy.cell 1
        have q2 := hRy.cell 2
        have q3 := hRy.cell 3
        have qf := hRy.frozen
        simp only [List.setIfInBounds_toArray, List.set_cons_zero, List.set_cons_succ, List.getElem?_toArray, List.getElem?_cons_zero, List.getElem?_cons_succ] at a0 a1 a2 a3 q0 q1 q2 q3
        have HY := Lib.hid (And.intro hRy hoy)
        clear hBy hRy hoy
        go_upto_region 14 with fail
        (try rw [hwy])
        clear hwy b0 b1 b2 b3 bf r0 r1 r2 r3 rf
        go_wp2_with fail
        have HB9 := HY.out.1.set4 (.int .u8 (k : Int)) (.string (str nm)) (.int .i64 n) (.slice none 0 0)
        refine bodyPost_ret (results_cell_row rfl _ _ (w.heap.size + 1) 24 _ (0, 0) _ rfl HB9 Try.underlying24 rfl (by kernel_rfl)) rfl ?_
        have ho := (HY.out.2.mono (G := fun g => g = w.heap.size ∨ g = w.heap.size + 1) fun g _ e => .inl e).trans ((off4 wy (w.heap.size + 1) (.int .u8 (k : Int)) (.string (str nm)) (.int .i64 n) (.slice none 0 0)).mono (G := fun g => g = w.heap.size ∨ g = w.heap.size + 1) fun g _ e => .inr e)
        exact ⟨none, 0, rfl, by rw [hkn]; exact ⟨Nat.le_refl _, Nat.zero_le _, .nil _, HE.out.2.2.trans (ho.below HE.out.2.2.size (fun g e => by rcases e with e | e <;> omega)), HOK.out⟩⟩
    · have hkp : 0 < kl := by omega
      have c3 := HE.out.1.cell 3
      simp only [List.getElem?_toArray, List.getElem?_cons_zero, List.getElem?_cons_succ] at c3
      have hd0 : decide ((kl : Int) > 0) = true := by simp; omega
      have hd0n : decide (0 < kl) = true := by simp; omega
      have hmk := HMK.out w0
      obtain ⟨wm, hwm⟩ : ∃ wm, w0.alloc (.cells (madeCells #[.int .u8 0, .string ⟨#[]⟩, .int .i64 0, .slice none 0 0] (kl * 4)) 24) = wm := ⟨_, rfl⟩
      rw [hwm] at hmk
      have hIm := TrI.start (k := k) (us := us) HE.out hwm
      obtain ⟨q, hq⟩ : ∃ q, w0.heap.size = q := ⟨_, rfl⟩
      rw [hq] at hmk hIm
      have m3 := hIm.box.cell 3
      simp only [List.getElem?_toArray, List.getElem?_cons_zero, List.getElem?_cons_succ] at m3
      have HIM := Lib.hid hIm
      clear hIm hq hwm HE
      go_upto_region 9 with fail
      clear c3 m3 hmk
      go_loopw [33] (fun iv wr => ∃ i : Nat, i ≤ kl ∧ iv = .int .i64 (i : Int) ∧ Hid (TrI w wr k nm n A kl c q us i)) (fun iv _ => kl - (intOf iv).toNat)
      case atStart => exact ⟨0, Nat.zero_le _, rfl, HIM⟩
      case round =>
        clear HIM
        obtain ⟨i, hi, rfl, hX⟩ := hrel
        by_cases hli : i < kl
        · have hd : decide ((i : Int) < (kl : Int)) = true := by simpa using hli
          obtain ⟨t, ht⟩ : ∃ t, ks[i]? = some t := ⟨_, List.getElem?_eq_getElem (by rw [HK.out.1]; exact hli)⟩
          obtain ⟨b, off, A', c', rfl, _, hbl, z0, z1, z2, z3, hok, hlc, hcm, hAt⟩ := (HAW.out.bel hX.out.bel).get ht
          obtain ⟨tl, htl⟩ : ∃ tl, t.ks.length = tl := ⟨_, rfl⟩
          obtain ⟨w6, hw6⟩ : ∃ w6, wr.alloc (.cells #[.int .u8 (t.k : Int), .string (str t.nm), .int .i64 t.n, .slice A' tl c'] 24) = w6 := ⟨_, rfl⟩
          have hb6 : Below wr.heap.size wr w6 := by rw [← hw6]; exact (Below.refl _ _).alloc (Nat.le_refl _) _
          have hB6 : Blk w6 wr.heap.size 24 #[.int .u8 (t.k : Int), .string (str t.nm), .int .i64 t.n, .slice A' tl c'] := by rw [← hw6]; exact Blk.new _ _ _
          have y0 := hB6.cell 0
          have y1 := hB6.cell 1
          have y2 := hB6.cell 2
          have y3 := hB6.cell 3
          simp only [List.getElem?_toArray, List.getElem?_cons_zero, List.getElem?_cons_succ] at y0 y1 y2 y3
          obtain ⟨u, hu⟩ : ∃ u, us[i]? = some u := ⟨_, List.getElem?_eq_getElem (by rw [HUS.out.1]; exact hli)⟩
          have hut : thr pl t = u := by
            rw [HUS.out.2, List.getElem?_map, ht] at hu
            exact Option.some.inj hu
          have HC := HK.out.2.1 t (List.mem_of_getElem? ht) A' c' w6 (hAt.bel hb6) hlc hcm hok (by have := Ty.partss_mem (List.mem_of_getElem? ht); have := HK.out.2.2; omega) (fun m hm => HN.out m (Ty.allnums_mem (List.mem_of_getElem? ht) hm)) (HH.out.1 _ _ HJ0.out (hX.out.bel.trans (hb6.mono hX.out.bel.size)))
          unfold Ty.val at HC
          rw [hut] at HC
          rw [htl] at HC z3
          obtain ⟨ul, hul⟩ : ∃ ul, u.ks.length = ul := ⟨_, rfl⟩
          rw [hul] at HC
          replace HC := Lib.hid HC
          have HX6 : Hid (TrI w wr k nm n (some ⟨b, off, none⟩) kl c q us i ∧ Below wr.heap.size wr w6 ∧ us[i]? = some u ∧ u.ks.length = ul) := Lib.hid ⟨hX.out, hb6, hu, hul⟩
          clear ht hAt hlc hcm htl hb6 hB6 hX hbl hok hu hut hul
          go_upto_region 11 with fail
          (try rw [hw6])
          clear hw6 z0 z1 z2 z3
          go_wp2_with fail
          refine HC.out.mono ?_
          rintro e w7 ⟨A2, c2, rfl, hM⟩
          obtain ⟨p0, p1, p2, p3, pf, hnx⟩ := HX6.out.1.next HX6.out.2.1 hM HX6.out.2.2.1 HX6.out.2.2.2 hli
          obtain ⟨pv0, hp0⟩ := p0
          obtain ⟨pv1, hp1⟩ := p1
          obtain ⟨pv2, hp2⟩ := p2
          obtain ⟨pv3, hp3⟩ := p3
          obtain ⟨wz, hwz⟩ : ∃ wz, (((w7.setCell ⟨q, i * 4, none⟩ (.int .u8 (u.k : Int))).setCell ⟨q, i * 4 + 1, none⟩ (.string (str u.nm))).setCell ⟨q, i * 4 + 2, none⟩ (.int .i64 u.n)).setCell ⟨q, i * 4 + 3, none⟩ (.slice A2 ul c2) = wz := ⟨_, rfl⟩
          rw [hwz] at hnx
          have HNX : Hid (TrI w wz k nm n (some ⟨b, off, none⟩) kl c q us (i + 1)) := Lib.hid hnx.1
          have HWZ := Lib.hid hwz
          clear hM hnx HC HX6 y0 y1 y2 y3 hwz
          go_upto_region 12 with fail
          (try rw [HWZ.out])
          clear hp0 hp1 hp2 hp3 pf HWZ
          go_wp2_with fail
          go_roundw
          case rel => exact ⟨i + 1, by omega, by go_num, HNX⟩
          case measure => simp [intOf]; omega
        · obtain rfl : kl = i := by omega
          have hd : decide ((kl : Int) < (kl : Int)) = false := by simp
          have HF := Lib.hid (hX.out.fin HUS.out.1)
          have HE : Hid (Blk wr w.heap.size 24 #[.int .u8 (k : Int), .string (str nm), .int .i64 n, .slice A kl c] ∧ Blk wr (w.heap.size + 1) 24 #[.int .u8 0, .string ⟨#[]⟩, .int .i64 0, .slice none 0 0] ∧ Below w.heap.size w wr) := Lib.hid ⟨hX.out.box, hX.out.res, hX.out.bel⟩
          clear hX
          have b0 := HE.out.1.cell 0
          have b1 := HE.out.1.cell 1
          have b2 := HE.out.1.cell 2
          have b3 := HE.out.1.cell 3
          have bf := HE.out.1.frozen
          have r0 := HE.out.2.1.cell 0
          have r1 := HE.out.2.1.cell 1
          have r2 := HE.out.2.1.cell 2
          have r3 := HE.out.2.1.cell 3
          have rf := HE.out.2.1.frozen
          simp only [List.getElem?_toArray, List.getElem?_cons_zero, List.getElem?_cons_succ] at b0 b1 b2 b3 r0 r1 r2 r3
          obtain ⟨wy, hwy⟩ : ∃ wy, wr.setCell ⟨w.heap.size, 3, none⟩ (.slice (some ⟨q, 0, none⟩) kl kl) = wy := ⟨_, rfl⟩
          have hBy := HE.out.1.set_ 3 (.slice (some ⟨q, 0, none⟩) kl kl)
          rw [hwy] at hBy
          have hRy : Blk wy (w.heap.size + 1) 24 #[.int .u8 0, .string ⟨#[]⟩, .int .i64 0, .slice none 0 0] := by rw [← hwy]; exact HE.out.2.1.far (p := ⟨w.heap.size, 3, none⟩) (by show w.heap.size + 1 ≠ w.heap.size; omega) _
          have hoy : Off (fun g => g = w.heap.size) wr wy := by rw [← hwy]; exact Off.setc _ _ _ _
          have a0 := hBy.cell 0
          have a1 := hBy.cell 1
          have a2 := hBy.cell 2
          have a3 := hBy.cell 3
          have q0 := hRy.cell 0
          have q1 := hRy.cell 1
          have q2 := hRy.cell 2
          have q3 := hRy.cell 3
          have qf := hRy.frozen
          simp only [List.setIfInBounds_toArray, List.set_cons_zero, List.set_cons_succ, List.getElem?_toArray, List.getElem?_cons_zero, List.getElem?_cons_succ] at a0 a1 a2 a3 q0 q1 q2 q3
          have HY := Lib.hid (And.intro hRy hoy)
          clear hBy hRy hoy
          go_upto_region 14 with fail
          (try rw [hwy])
          clear hwy b0 b1 b2 b3 bf r0 r1 r2 r3 rf
          go_wp2_with fail
          have HB9 := HY.out.1.set4 (.int .u8 (k : Int)) (.string (str nm)) (.int .i64 n) (.slice (some ⟨q, 0, none⟩) kl kl)
          refine bodyPost_ret (results_cell_row rfl _ _ (w.heap.size + 1) 24 _ (0, 0) _ rfl HB9 Try.underlying24 rfl (by kernel_rfl)) rfl ?_
          have ho := (HY.out.2.mono (G := fun g => g = w.heap.size ∨ g = w.heap.size + 1) fun g _ e => .inl e).trans ((off4 wy (w.heap.size + 1) (.int .u8 (k : Int)) (.string (str nm)) (.int .i64 n) (.slice (some ⟨q, 0, none⟩) kl kl)).mono (G := fun g => g = w.heap.size ∨ g = w.heap.size + 1) fun g _ e => .inr e)
          refine ⟨some ⟨q, 0, none⟩, kl, rfl, ⟨by show us.length ≤ kl; rw [HUS.out.1]; exact Nat.le_refl _, HCAP.out, (HF.out.off ho (fun g h e => by rcases e with e | e <;> have := h.1 <;> omega)).mono (fun g h => ⟨by have := h.1; omega, Nat.lt_of_lt_of_le h.2 ho.size⟩), HE.out.2.2.trans (ho.below HE.out.2.2.size (fun g e => by rcases e with e | e <;> omega)), HOK.out⟩⟩

end Go.Proofs.Ytndhojnfjlkojaa
