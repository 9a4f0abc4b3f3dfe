/- stamp, numbers too: a row of texts in a variable; names. -/
import Derived.Laws.EntriesVeiled
import Derived.Test.YtadogebhkldeiaaGreatDoorZM
namespace Go.Proofs.YtadogebhkldeiaaGreatDoor
open Go.RowKit Ty
set_option linter.unusedVariables false
set_option linter.unusedSimpArgs false
attribute [local go_sem] Oper.semAt_some
def flatS (ss : List (List UInt8)) : List Value := ss.map fun s => .string (str s)
/-- A variable that holds a row of texts of the call's own, apart from X. -/
structure Sv (B : Nat) (X : Nat → Prop) (g : Nat) (ss : List (List UInt8)) (w : World) (A : Option Addr) (n c : Nat) : Prop where
  at_ : Blk w g 32 #[.slice A n c]
  low : B ≤ g
  len : ss.length = n
  own : w.ownsRow B 9 1 (.slice A n c) n (flatS ss)
  ne : (Value.slice A n c).ownBlock ≠ some g
  off : ∀ k, X k → k < w.heap.size ∧ k ≠ g ∧ (Value.slice A n c).ownBlock ≠ some k
def IsS (B : Nat) (X : Nat → Prop) (g : Nat) (ss : List (List UInt8)) (w : World) : Prop := ∃ A n c, Sv B X g ss w A n c
section
variable {B : Nat} {X Y : Nat → Prop} {g : Nat} {ss : List (List UInt8)} {w w' : World} {A : Option Addr} {n c : Nat}
theorem IsS.mono (h : IsS B X g ss w) (hX : ∀ k, Y k → X k) : IsS B Y g ss w := by
  obtain ⟨A, n, c, h⟩ := h
  exact ⟨A, n, c, h.at_, h.low, h.len, h.own, h.ne, fun k hk => h.off k (hX k hk)⟩
theorem IsS.bel (h : IsS B X g ss w) (hb : Below w.heap.size w w') (hY : ∀ k, Y k → X k ∨ (w.heap.size ≤ k ∧ k < w'.heap.size)) : IsS B Y g ss w' := by
  obtain ⟨A, n, c, h⟩ := h
  have hlt : g < w.heap.size := h.at_.lt
  refine ⟨A, n, c, h.at_.below hb hlt, h.low, h.len, own_below h.own hb, h.ne, fun k hk => ?_⟩
  rcases hY k hk with h1 | h1
  · have := h.off k h1
    exact ⟨Nat.lt_of_lt_of_le this.1 hb.size, this.2⟩
  · exact ⟨h1.2, by omega, fun e => by have := (h.own.lt k e).2; omega⟩
theorem IsS.lt (h : IsS B X g ss w) : g < w.heap.size := by
  obtain ⟨A, n, c, h⟩ := h
  exact h.at_.lt
theorem Sv.row (h : Sv B X g ss w A n c) : SsAt (fun b => B ≤ b) w A ss := fun r s hs => by
  rcases h.own.2 with ⟨e, h0⟩ | ⟨b, cap, cur, e, hB, hg, h1, h2, h3, h4⟩
  · have : ss = [] := List.eq_nil_of_length_eq_zero (by rw [h.len]; exact h0)
    rw [this] at hs; simp at hs
  · injection e with e1 e2 e3
    subst e1
    refine ⟨b, 0, rfl, hB, (Array.getElem?_eq_some_iff.1 hg).1, ?_⟩
    have hr := (List.getElem?_eq_some_iff.1 hs).1
    have hn := h.len
    have h5 : (flatS ss)[r]? = some (.string (str s)) := by unfold flatS; rw [List.getElem?_map, hs]; rfl
    rw [← h4, List.getElem?_take_of_lt (by omega)] at h5
    rw [Nat.zero_add, cell_of_row w b r cur _ (0, 0) hg]
    simpa using h5
theorem infoStr : (Tryz.prog.info? 9).map (fun i => (i.zero, i.size, i.bytes)) = some (some (.string ⟨#[]⟩), 1, 16) := by kernel_rfl
/-- One text more. -/
theorem Sv.app (h : Sv B X g ss w A n c) (s : List UInt8) (hn : n < 1000000) {w1 : World} (h1 : w.alloc (.cells #[.string (str s)] 9) = w1) :
    ∃ A' c' w2, (Builtin.append_ #[32, 32] 32 #[.slice A n c, .slice (some ⟨w.heap.size, 0, none⟩) 1 1]).run Tryz.prog w1 = .ok (.slice A' (n + 1) c') w2 ∧
      w2.cell? ⟨g, 0, none⟩ = some (.slice A n c) ∧ w2.frozen? ⟨g, 0, none⟩ = false ∧ IsS B X g (ss ++ [s]) (w2.setCell ⟨g, 0, none⟩ (.slice A' (n + 1) c')) ∧ Off (fun k => ¬ X k) w (w2.setCell ⟨g, 0, none⟩ (.slice A' (n + 1) c')) := by
  obtain ⟨i0, hi0, hz0, hz1, hz2⟩ := info_parts infoStr
  have hb1 : Below w.heap.size w w1 := by rw [← h1]; exact (Below.refl _ _).alloc (Nat.le_refl _) _
  have hB1 : Blk w1 w.heap.size 9 #[.string (str s)] := by rw [← h1]; exact Blk.new _ _ _
  have hg1 := h.at_.lt
  have hlow := h.low
  have hs1 := hb1.size
  obtain ⟨v', w2, hr, hO, hgr, _, h5⟩ := run_append_own_at (P := Tryz.prog) w1 B 32 32 9 i0 (.string ⟨#[]⟩) 1 16 Tryz.underlying32 hi0 hz0 hz1 hz2 rfl (by decide) (.slice A n c) n (flatS ss) (own_below h.own hb1) ⟨w.heap.size, 0, none⟩ 1 1 [.string (str s)] rfl
    (fun j u hj => by
      have hj0 : j = 0 := by have := (List.getElem?_eq_some_iff.1 hj).1; simpa using this
      subst hj0
      rw [add_off, Nat.zero_add, hB1.cell 0]
      exact hj)
    (fun u hu => by rw [List.mem_singleton.1 hu]; rfl) (by unfold maxLen; omega) (by omega) (by omega)
  obtain ⟨A', c', rfl⟩ : ∃ A' c', v' = .slice A' (n + 1) c' := by
    rcases hO.2 with ⟨e, h0⟩ | ⟨b, cap, cur, e, _⟩
    · omega
    · exact ⟨_, _, e⟩
  have ho : Off (fun k => (Value.slice A n c).ownBlock = some k) w1 w2 := Off.of_grown hgr
  have hB2 : Blk w2 g 32 #[.slice A n c] := (h.at_.below hb1 hg1).off ho h.ne
  have hst := Off.setc w2 g 0 (.slice A' (n + 1) c')
  have hne : (Value.slice A' (n + 1) c').ownBlock ≠ some g := fun e => by
    rcases h5 with h5 | h5
    · exact h.ne (h5 ▸ e)
    · rw [h5] at e; cases e; omega
  refine ⟨A', c', w2, hr, hB2.cell 0, hB2.frozen 0, ⟨A', n + 1, c', ?_, hlow, by rw [List.length_append, h.len]; rfl, ⟨?_, ?_⟩, hne, fun k hk => ?_⟩, ?_⟩
  · have : Blk (w2.setCell ⟨g, 0, none⟩ (.slice A' (n + 1) c')) g 32 #[.slice A' (n + 1) c'] := by simpa using hB2.set_ 0 (.slice A' (n + 1) c')
    exact this
  · have := hO.1
    unfold flatS at this ⊢
    rw [List.map_append]
    exact this
  · rcases hO.2 with h0 | ⟨b, cap, cur, e2, k5, k6, k7⟩
    · exact .inl h0
    · refine .inr ⟨b, cap, cur, e2, k5, (hst.block b (Array.getElem?_eq_some_iff.1 k6).1 (fun e3 => hne (by rw [e2, e3]; rfl))).trans k6, ?_⟩
      unfold flatS at k7 ⊢
      rw [List.map_append]
      exact k7
  · obtain ⟨k1, k2, k3⟩ := h.off k hk
    refine ⟨Nat.lt_of_lt_of_le k1 (Nat.le_trans hs1 (Nat.le_trans ho.size hst.size)), k2, fun e => ?_⟩
    rcases h5 with h5 | h5
    · exact k3 (h5 ▸ e)
    · rw [h5] at e; cases e; omega
  · exact (Off.of_new hb1 _).trans ((ho.mono fun k _ hk hX => (h.off k hX).2.2 hk).trans (hst.mono fun k _ hk hX => (h.off k hX).2.1 hk))
end
mutual
/-- The names to which a type comes; a variable comes to none. -/
def namesT : Ty → List (List UInt8)
  | .node k nm _ ks => if k = 2 then nm :: namesL ks else if k = 4 then namesL ks else []
def namesL : List Ty → List (List UInt8)
  | [] => []
  | t :: ts => namesT t ++ namesL ts
end
theorem namesT_eq (t : Ty) : namesT t = (if t.k = 2 then [t.nm] else []) ++ (if t.k = 2 ∨ t.k = 4 then namesL t.ks else []) := by
  obtain ⟨k, nm, n, ks⟩ := t
  rw [namesT]
  show _ = (if k = 2 then [nm] else []) ++ (if k = 2 ∨ k = 4 then namesL ks else [])
  by_cases h : k = 2
  · rw [if_pos h, if_pos h, if_pos (.inl h)]; rfl
  · by_cases h4 : k = 4
    · rw [if_neg h, if_neg h, if_pos h4, if_pos (.inr h4)]; rfl
    · rw [if_neg h, if_neg h, if_neg h4, if_neg (by omega)]; rfl
theorem namesL_app : ∀ a b : List Ty, namesL (a ++ b) = namesL a ++ namesL b
  | [], b => by rw [List.nil_append, namesL, List.nil_append]
  | t :: a, b => by rw [List.cons_append, namesL, namesL, namesL_app a b, List.append_assoc]
theorem namesL_next {ts : List Ty} {i : Nat} {t : Ty} (h : ts[i]? = some t) : namesL (ts.take (i + 1)) = namesL (ts.take i) ++ namesT t := by
  rw [List.take_add_one, h, namesL_app]
  show _ ++ namesL [t] = _
  rw [namesL, namesL, List.append_nil]
theorem namesL_le : ∀ (ts : List Ty) (i : Nat), (namesL (ts.take i)).length ≤ (namesL ts).length := fun ts i => by
  have : ts = ts.take i ++ ts.drop i := (List.take_append_drop i ts).symm
  have h2 := congrArg (fun x => (namesL x).length) this
  simp only [namesL_app, List.length_append] at h2
  omega
mutual
/-- No row of kids is too long. -/
def sml : Ty → Bool
  | .node _ _ _ ks => decide (ks.length ≤ 1000000) && smls ks
def smls : List Ty → Bool
  | [] => true
  | t :: ts => sml t && smls ts
end
theorem sml_eq (t : Ty) : sml t = (decide (t.ks.length ≤ 1000000) && smls t.ks) := by
  obtain ⟨k, nm, n, ks⟩ := t
  rw [sml]; rfl
theorem smls_mem : ∀ {ts : List Ty} {t : Ty}, smls ts = true → t ∈ ts → sml t = true
  | u :: ts, t, h, hm => by
    rw [smls, Bool.and_eq_true] at h
    rcases List.mem_cons.1 hm with rfl | hm
    · exact h.1
    · exact smls_mem h.2 hm
set_option maxRecDepth 100000 in
set_option maxHeartbeats 8000000 in
theorem names1_any : ∀ (t : Ty), sml t = true → ∀ (A : Option Addr) (c : Nat) (B : Nat) (X : Nat → Prop) (g gk : Nat) (ss : List (List UInt8)) (w : World), IsS B X g ss w → X gk → w.cell? ⟨gk, 0, none⟩ = some (.func (.func 29) #[] #[.pointer (some ⟨g, 0, none⟩), .pointer (some ⟨gk, 0, none⟩)]) → TyK A t.ks X w → ss.length + (namesT t).length < 1000000 →
    Calls Tryz.prog 29 #[t.val A c, .pointer (some ⟨g, 0, none⟩), .pointer (some ⟨gk, 0, none⟩)] w fun e w' => e = .returned (.tuple #[]) ∧ IsS B X g (ss ++ namesT t) w' ∧ Off (fun k => ¬ X k) w w' := Ty.ind fun k nm n ks ih hsm A c B X g gk ss w hS hgk hcl hT hl => by
  have hT : Ty.At X w A ks := hT
  rw [sml_eq, Bool.and_eq_true] at hsm
  obtain ⟨hs1, hs2⟩ := hsm
  have hs1 : ks.length ≤ 1000000 := of_decide_eq_true hs1
  have hs2 : smls ks = true := hs2
  have hnm := namesT_eq (.node k nm n ks)
  change namesT (.node k nm n ks) = (if k = 2 then [nm] else []) ++ (if k = 2 ∨ k = 4 then namesL ks else []) at hnm
  obtain ⟨hdn, hhd⟩ : ∃ h, (if k = 2 then [nm] else []) = h := ⟨_, rfl⟩
  obtain ⟨tln, htn⟩ : ∃ h, (if k = 2 ∨ k = 4 then namesL ks else []) = h := ⟨_, rfl⟩
  rw [hhd, htn] at hnm
  rw [hnm] at hl
  obtain ⟨kl, hkl⟩ : ∃ kl, ks.length = kl := ⟨_, rfl⟩
  show Calls Tryz.prog 29 #[.agg #[.int .u8 (k : Int), .string (str nm), .int .i64 n, .slice A ks.length c], .pointer (some ⟨g, 0, none⟩), .pointer (some ⟨gk, 0, none⟩)] w fun e w' => e = .returned (.tuple #[]) ∧ IsS B X g (ss ++ namesT (.node k nm n ks)) w' ∧ Off (fun k => ¬ X k) w w'
  rw [hnm, hkl]
  rw [hkl] at hs1
  obtain ⟨w1, hw1⟩ : ∃ W, w.alloc (.cells #[.int .u8 (k : Int), .string (str nm), .int .i64 n, .slice A kl c] 24) = W := ⟨_, rfl⟩
  have hb1 : Below w.heap.size w w1 := by rw [← hw1]; exact (Below.refl _ _).alloc (Nat.le_refl _) _
  have hB1 : Blk w1 w.heap.size 24 #[.int .u8 (k : Int), .string (str nm), .int .i64 n, .slice A kl c] := by rw [← hw1]; exact Blk.new _ _ _
  obtain ⟨q, hq⟩ : ∃ q, w.heap.size = q := ⟨_, rfl⟩
  rw [hq] at hB1
  obtain ⟨Y, hY⟩ : ∃ Y : Nat → Prop, Y = fun k => X k ∨ k = q := ⟨_, rfl⟩
  have hYq : Y q := by rw [hY]; exact .inr rfl
  have hXY : ∀ k, X k → Y k := fun k h => by rw [hY]; exact .inl h
  have hI1 : IsS B Y g ss w1 := hS.bel hb1 fun k h => by
    rw [hY] at h
    rcases h with h | rfl
    · exact .inl h
    · exact .inr ⟨by omega, hB1.lt⟩
  have hgl : gk < w.heap.size := World.block_lt_of_cell? w _ hcl
  have hcl1 : ∀ W, Off (fun k => ¬ Y k) w1 W → W.cell? ⟨gk, 0, none⟩ = some (.func (.func 29) #[] #[.pointer (some ⟨g, 0, none⟩), .pointer (some ⟨gk, 0, none⟩)]) := fun W hW => (World.cell?_of_block (a := ⟨gk, 0, none⟩) (hW.block gk (Nat.lt_of_lt_of_le hgl hb1.size) (fun h => h (hXY gk hgk)))).trans ((hb1.cell (p := ⟨gk, 0, none⟩) hgl).trans hcl)
  have hA1 : ∀ W, Off (fun k => ¬ Y k) w1 W → Ty.At Y W A ks := fun W hW => (((hT.mono hXY).off (Off.of_new hb1 (fun k => ¬ Y k)) (fun b hb hn => hn hb))).off hW fun b hb hn => hn hb
  have HX : Hid (∀ W, Off (fun k => ¬ Y k) w1 W → W.cell? ⟨q, 0, none⟩ = some (.int .u8 (k : Int)) ∧ W.cell? ⟨q, 1, none⟩ = some (.string (str nm)) ∧ W.cell? ⟨q, 2, none⟩ = some (.int .i64 n) ∧ W.cell? ⟨q, 3, none⟩ = some (.slice A kl c)) := Lib.hid fun W hW => by
    have h := hB1.off hW fun h => h hYq
    exact ⟨h.cell 0, h.cell 1, h.cell 2, h.cell 3⟩
  have HEND : Hid (∀ (w9 : World) (s9 : List (List UInt8)), IsS B Y g s9 w9 → Off (fun k => ¬ Y k) w1 w9 → s9 = ss ++ (hdn ++ tln) → IsS B X g (ss ++ (hdn ++ tln)) w9 ∧ Off (fun k => ¬ X k) w w9) := Lib.hid fun w9 s9 h o e => ⟨by rw [← e]; exact h.mono hXY, (Off.of_new hb1 (fun k => ¬ X k)).trans (o.mono fun k _ h hX => h (hXY k hX))⟩
  have HI := Lib.hid (And.intro hI1 (And.intro hA1 (And.intro hkl (And.intro hcl1 (And.intro hl (And.intro (hXY gk hgk) (fun x hx => ih x hx (smls_mem hs2 hx))))))))
  have HW := Lib.hid (And.intro hw1 hq)
  have HHD := Lib.hid (And.intro hhd htn)
  clear hhd htn hS hT hb1 hB1 hYq hY hXY hI1 hA1 hw1 hq hkl hcl hcl1 hl ih hgk hgl hs2 hnm
  go_enter Tryz.func29, Tryz.ntmps29
  go_upto_region 1 with fail
  (try rw [HW.out.1])
  (try rw [HW.out.2])
  clear HW
  obtain ⟨x0, x1, x2, x3⟩ := HX.out w1 (Off.refl _ _)
  by_cases h2 : k = 2
  · have e2 : ((k : Int) == 2) = true := by rw [h2]; rfl
    obtain ⟨lA, ln, lc, hsv⟩ := HI.out.1
    have v0 := hsv.at_.cell 0
    simp only [List.getElem?_toArray, List.getElem?_cons_zero] at v0
    obtain ⟨wa, hwa⟩ : ∃ W, w1.alloc (.cells #[.string (str nm)] 9) = W := ⟨_, rfl⟩
    obtain ⟨lA', lc', wb, hrun, v1, vf, hS2, hO2⟩ := hsv.app nm (by have := HI.out.2.2.2.2.1; rw [List.length_append] at this; have := hsv.len; omega) hwa
    obtain ⟨wc, hwc⟩ : ∃ W, wb.setCell ⟨g, 0, none⟩ (.slice lA' (ln + 1) lc') = W := ⟨_, rfl⟩
    rw [hwc] at hS2 hO2
    obtain ⟨s1, hs1'⟩ : ∃ s, ss ++ [nm] = s := ⟨_, rfl⟩
    rw [hs1'] at hS2
    have HS1 : Hid (IsS B Y g s1 wc ∧ Off (fun k => ¬ Y k) w1 wc ∧ s1 = ss ++ hdn) := Lib.hid ⟨hS2, hO2, by rw [← hs1', ← HHD.out.1, if_pos h2]⟩
    have HTN : Hid (namesL ks = tln) := Lib.hid (by rw [← HHD.out.2, if_pos (.inl h2)])
    have HR := Lib.hid (And.intro hrun (And.intro hwa hwc))
    clear hsv hwa hrun hS2 hO2 hwc hs1' h2
    have hrun := HR.out.1
    have hal := HR.out.2.1
    go_upto_region 5 with (at_builtin; refine wpList_app rfl _ _ 32 rfl _ _ _ _ rfl rfl hrun ?_)
    (try rw [HR.out.2.2])
    clear hrun hal HR v0 v1 vf x0 x1 x2 x3
    obtain ⟨x0, x1, x2, x3⟩ := HX.out wc HS1.out.2.1
    go_wp2_with fail
    go_loopw [20] (fun v17 wr => ∃ (i : Nat), i ≤ kl ∧ v17 = .int .i64 (i : Int) ∧ Hid (IsS B Y g (s1 ++ namesL (ks.take i)) wr ∧ Off (fun k => ¬ Y k) w1 wr)) (fun v17 _ => kl - (intOf v17).toNat)
    case atStart => exact ⟨0, Nat.zero_le _, rfl, Lib.hid ⟨by rw [List.take_zero, namesL, List.append_nil]; exact HS1.out.1, HS1.out.2.1⟩⟩
    case round =>
      obtain ⟨i, hi, rfl, HJ⟩ := hrel
      by_cases hli : i < kl
      · have hd : decide ((i : Int) < (kl : Int)) = true := by simpa using hli
        obtain ⟨t, ht⟩ : ∃ t, ks[i]? = some t := ⟨_, List.getElem?_eq_getElem (by rw [HI.out.2.2.1]; exact hli)⟩
        obtain ⟨ba, oa, A', c', rfl, _, _, z0, z1, z2, z3, hok, hlc, hcm, hKt⟩ := (HI.out.2.1 wr HJ.out.2).get ht
        obtain ⟨tl, htl⟩ : ∃ tl, t.ks.length = tl := ⟨_, rfl⟩
        rw [htl] at z3
        obtain ⟨w3, hw3⟩ : ∃ W, wr.alloc (.cells #[.int .u8 (t.k : Int), .string (str t.nm), .int .i64 t.n, .slice A' tl c'] 24) = W := ⟨_, rfl⟩
        have hb3 : Below wr.heap.size wr w3 := by rw [← hw3]; exact (Below.refl _ _).alloc (Nat.le_refl _) _
        have hB3 : Blk w3 wr.heap.size 24 #[.int .u8 (t.k : Int), .string (str t.nm), .int .i64 t.n, .slice A' tl c'] := by rw [← hw3]; exact Blk.new _ _ _
        obtain ⟨q3, hq3⟩ : ∃ q, wr.heap.size = q := ⟨_, rfl⟩
        rw [hq3] at hB3
        have y0 : w3.cell? ⟨q3, 0, none⟩ = some (.int .u8 (t.k : Int)) := hB3.cell 0
        have y1 : w3.cell? ⟨q3, 1, none⟩ = some (.string (str t.nm)) := hB3.cell 1
        have y2 : w3.cell? ⟨q3, 2, none⟩ = some (.int .i64 t.n) := hB3.cell 2
        have y3 : w3.cell? ⟨q3, 3, none⟩ = some (.slice A' tl c') := hB3.cell 3
        have ho3 : Off (fun k => ¬ Y k) w1 w3 := HJ.out.2.trans (Off.of_new hb3 _)
        have hI3 : IsS B Y g (s1 ++ namesL (ks.take i)) w3 := HJ.out.1.bel hb3 fun k h => .inl h
        have hlk := HI.out.2.2.2.1 w3 ho3
        have hle := namesL_le ks (i + 1)
        rw [namesL_next ht] at hle
        have hlt := HI.out.2.2.2.2.1
        have hs1l := HS1.out.2.2
        have hC := HI.out.2.2.2.2.2.2 t (List.mem_of_getElem? ht) A' c' B Y g gk (s1 ++ namesL (ks.take i)) w3 hI3 HI.out.2.2.2.2.2.1 hlk ((show TyK A' t.ks Y wr from hKt).more (fun _ h => h) (Off.of_new hb3 _)) (by
          rw [hs1l, List.append_assoc, List.length_append, List.length_append]
          rw [List.length_append] at hle hlt
          have htn := congrArg List.length HTN.out
          omega)
        unfold Ty.val at hC
        rw [htl] at hC
        have HC := Lib.hid hC
        have HNX : Hid (namesL (ks.take (i + 1)) = namesL (ks.take i) ++ namesT t) := Lib.hid (namesL_next ht)
        have HO3 := Lib.hid (And.intro ho3 (And.intro hw3 hq3))
        clear hC ho3 hI3 hle hlt hs1l hw3 hq3 hB3 hb3 hok hlc hcm hKt ht htl
        go_upto_region 8 with fail
        (try rw [HO3.out.2.1])
        (try rw [HO3.out.2.2])
        go_wp2_with fail
        refine HC.out.mono ?_
        rintro e w4 ⟨rfl, h4, o4⟩
        have HN : Hid (IsS B Y g (s1 ++ namesL (ks.take (i + 1))) w4 ∧ Off (fun k => ¬ Y k) w1 w4) := Lib.hid ⟨by rw [HNX.out, ← List.append_assoc]; exact h4, HO3.out.1.trans o4⟩
        clear h4 o4 y0 y1 y2 y3 z0 z1 z2 z3 hlk HC HNX HO3
        go_wp2_with fail
        go_roundw
        case rel => exact ⟨i + 1, by omega, by go_num, HN⟩
        case measure => simp [intOf]; omega
      · obtain rfl : kl = i := by omega
        have hd : decide ((kl : Int) < (kl : Int)) = false := by simp
        have HP := Lib.hid (HEND.out wr _ HJ.out.1 HJ.out.2 (by
          rw [List.take_of_length_le (by rw [HI.out.2.2.1]; exact Nat.le_refl _), HS1.out.2.2, List.append_assoc, HTN.out]))
        go_wp2_with fail
        go_end0
        exact ⟨rfl, HP.out⟩
  · have e2 : ((k : Int) == 2) = false := by rw [beq_eq_false_iff_ne]; omega
    by_cases h4 : k = 4
    · have e4 : ((k : Int) == 4) = true := by rw [h4]; rfl
      obtain ⟨s1, hs1'⟩ : ∃ s, ss = s := ⟨_, rfl⟩
      have HS1 : Hid (IsS B Y g s1 w1 ∧ Off (fun k => ¬ Y k) w1 w1 ∧ s1 = ss ++ hdn) := Lib.hid ⟨by rw [← hs1']; exact HI.out.1, Off.refl _ _, by rw [← hs1', ← HHD.out.1, if_neg h2, List.append_nil]⟩
      have HTN : Hid (namesL ks = tln) := Lib.hid (by rw [← HHD.out.2, if_pos (.inr h4)])
      clear hs1' h2 h4
      go_wp2_with fail
      go_loopw [20] (fun v17 wr => ∃ (i : Nat), i ≤ kl ∧ v17 = .int .i64 (i : Int) ∧ Hid (IsS B Y g (s1 ++ namesL (ks.take i)) wr ∧ Off (fun k => ¬ Y k) w1 wr)) (fun v17 _ => kl - (intOf v17).toNat)
      case atStart => exact ⟨0, Nat.zero_le _, rfl, Lib.hid ⟨by rw [List.take_zero, namesL, List.append_nil]; exact HS1.out.1, HS1.out.2.1⟩⟩
      case round =>
        obtain ⟨i, hi, rfl, HJ⟩ := hrel
        by_cases hli : i < kl
        · have hd : decide ((i : Int) < (kl : Int)) = true := by simpa using hli
          obtain ⟨t, ht⟩ : ∃ t, ks[i]? = some t := ⟨_, List.getElem?_eq_getElem (by rw [HI.out.2.2.1]; exact hli)⟩
          obtain ⟨ba, oa, A', c', rfl, _, _, z0, z1, z2, z3, hok, hlc, hcm, hKt⟩ := (HI.out.2.1 wr HJ.out.2).get ht
          obtain ⟨tl, htl⟩ : ∃ tl, t.ks.length = tl := ⟨_, rfl⟩
          rw [htl] at z3
          obtain ⟨w3, hw3⟩ : ∃ W, wr.alloc (.cells #[.int .u8 (t.k : Int), .string (str t.nm), .int .i64 t.n, .slice A' tl c'] 24) = W := ⟨_, rfl⟩
          have hb3 : Below wr.heap.size wr w3 := by rw [← hw3]; exact (Below.refl _ _).alloc (Nat.le_refl _) _
          have hB3 : Blk w3 wr.heap.size 24 #[.int .u8 (t.k : Int), .string (str t.nm), .int .i64 t.n, .slice A' tl c'] := by rw [← hw3]; exact Blk.new _ _ _
          obtain ⟨q3, hq3⟩ : ∃ q, wr.heap.size = q := ⟨_, rfl⟩
          rw [hq3] at hB3
          have y0 : w3.cell? ⟨q3, 0, none⟩ = some (.int .u8 (t.k : Int)) := hB3.cell 0
          have y1 : w3.cell? ⟨q3, 1, none⟩ = some (.string (str t.nm)) := hB3.cell 1
          have y2 : w3.cell? ⟨q3, 2, none⟩ = some (.int .i64 t.n) := hB3.cell 2
          have y3 : w3.cell? ⟨q3, 3, none⟩ = some (.slice A' tl c') := hB3.cell 3
          have ho3 : Off (fun k => ¬ Y k) w1 w3 := HJ.out.2.trans (Off.of_new hb3 _)
          have hI3 : IsS B Y g (s1 ++ namesL (ks.take i)) w3 := HJ.out.1.bel hb3 fun k h => .inl h
          have hlk := HI.out.2.2.2.1 w3 ho3
          have hle := namesL_le ks (i + 1)
          rw [namesL_next ht] at hle
          have hlt := HI.out.2.2.2.2.1
          have hs1l := HS1.out.2.2
          have hC := HI.out.2.2.2.2.2.2 t (List.mem_of_getElem? ht) A' c' B Y g gk (s1 ++ namesL (ks.take i)) w3 hI3 HI.out.2.2.2.2.2.1 hlk ((show TyK A' t.ks Y wr from hKt).more (fun _ h => h) (Off.of_new hb3 _)) (by
            rw [hs1l, List.append_assoc, List.length_append, List.length_append]
            rw [List.length_append] at hle hlt
            have htn := congrArg List.length HTN.out
            omega)
          unfold Ty.val at hC
          rw [htl] at hC
          have HC := Lib.hid hC
          have HNX : Hid (namesL (ks.take (i + 1)) = namesL (ks.take i) ++ namesT t) := Lib.hid (namesL_next ht)
          have HO3 := Lib.hid (And.intro ho3 (And.intro hw3 hq3))
          clear hC ho3 hI3 hle hlt hs1l hw3 hq3 hB3 hb3 hok hlc hcm hKt ht htl
          go_upto_region 8 with fail
          (try rw [HO3.out.2.1])
          (try rw [HO3.out.2.2])
          go_wp2_with fail
          refine HC.out.mono ?_
          rintro e w4 ⟨rfl, h4, o4⟩
          have HN : Hid (IsS B Y g (s1 ++ namesL (ks.take (i + 1))) w4 ∧ Off (fun k => ¬ Y k) w1 w4) := Lib.hid ⟨by rw [HNX.out, ← List.append_assoc]; exact h4, HO3.out.1.trans o4⟩
          clear h4 o4 y0 y1 y2 y3 z0 z1 z2 z3 hlk HC HNX HO3
          go_wp2_with fail
          go_roundw
          case rel => exact ⟨i + 1, by omega, by go_num, HN⟩
          case measure => simp [intOf]; omega
        · obtain rfl : kl = i := by omega
          have hd : decide ((kl : Int) < (kl : Int)) = false := by simp
          have HP := Lib.hid (HEND.out wr _ HJ.out.1 HJ.out.2 (by
            rw [List.take_of_length_le (by rw [HI.out.2.2.1]; exact Nat.le_refl _), HS1.out.2.2, List.append_assoc, HTN.out]))
          go_wp2_with fail
          go_end0
          exact ⟨rfl, HP.out⟩
    · have e4 : ((k : Int) == 4) = false := by rw [beq_eq_false_iff_ne]; omega
      have HP := Lib.hid (HEND.out w1 _ HI.out.1 (Off.refl _ _) (by rw [← HHD.out.1, ← HHD.out.2, if_neg h2, if_neg (by omega), List.append_nil, List.append_nil]))
      go_wp2_with fail
      (try simp only [Exit.inBlock, Exit.then])
      refine bodyPost_ret (results_none rfl _ _ _) rfl ?_
      exact ⟨rfl, HP.out⟩
set_option maxRecDepth 100000 in
set_option maxHeartbeats 4000000 in
theorem names_any (t : Ty) (hsm : sml t = true) (A : Option Addr) (c : Nat) (w : World) (hT : TyK A t.ks (fun k => k < w.heap.size) w) (hl : (namesT t).length < 1000000) :
    Calls Tryz.prog 21 #[t.val A c] w fun e w' => (∃ A' n' c', e = .returned (.slice A' n' c') ∧ (namesT t).length = n' ∧ SsAt (fun k => w.heap.size ≤ k) w' A' (namesT t)) ∧ Below w.heap.size w w' := by
  obtain ⟨k, nm, n, ks⟩ := t
  have hT : Ty.At (fun k => k < w.heap.size) w A ks := hT
  obtain ⟨kl, hkl⟩ : ∃ kl, ks.length = kl := ⟨_, rfl⟩
  show Calls Tryz.prog 21 #[.agg #[.int .u8 (k : Int), .string (str nm), .int .i64 n, .slice A ks.length c]] w fun e w' => (∃ A' n' c', e = .returned (.slice A' n' c') ∧ (namesT (.node k nm n ks)).length = n' ∧ SsAt (fun k => w.heap.size ≤ k) w' A' (namesT (.node k nm n ks))) ∧ Below w.heap.size w w'
  obtain ⟨nt, hnt⟩ : ∃ nt, namesT (.node k nm n ks) = nt := ⟨_, rfl⟩
  obtain ⟨q, hq⟩ : ∃ q, w.heap.size = q := ⟨_, rfl⟩
  obtain ⟨w1, hw1⟩ : ∃ W, w.alloc (.cells #[.int .u8 (k : Int), .string (str nm), .int .i64 n, .slice A kl c] 24) = W := ⟨_, rfl⟩
  have hb1 : Below w.heap.size w w1 := by rw [← hw1]; exact (Below.refl _ _).alloc (Nat.le_refl _) _
  have hB1 : Blk w1 w.heap.size 24 #[.int .u8 (k : Int), .string (str nm), .int .i64 n, .slice A kl c] := by rw [← hw1]; exact Blk.new _ _ _
  have hn1 : w1.heap.size = q + 1 := by rw [← hw1, ← hq]; simp
  obtain ⟨w2, hw2⟩ : ∃ W, w1.alloc (.cells #[.slice none 0 0] 32) = W := ⟨_, rfl⟩
  have hb2 : Below w1.heap.size w1 w2 := by rw [← hw2]; exact (Below.refl _ _).alloc (Nat.le_refl _) _
  have hB2 : Blk w2 w1.heap.size 32 #[.slice none 0 0] := by rw [← hw2]; exact Blk.new _ _ _
  have hn2 : w2.heap.size = q + 2 := by rw [← hw2]; simp [hn1]
  obtain ⟨q1, hq1⟩ : ∃ q1, q + 1 = q1 := ⟨_, rfl⟩
  obtain ⟨q2, hq2⟩ : ∃ q2, q + 2 = q2 := ⟨_, rfl⟩
  rw [hq1] at hn1
  rw [hq2] at hn2
  obtain ⟨cl, hcl⟩ : ∃ v : Value, v = .func (.func 29) #[] #[.pointer (some ⟨q1, 0, none⟩), .pointer (some ⟨q2, 0, none⟩)] := ⟨_, rfl⟩
  obtain ⟨wz, hwz⟩ : ∃ W, w2.alloc (.cells #[.nilFunc] 73) = W := ⟨_, rfl⟩
  have hbz : Below w2.heap.size w2 wz := by rw [← hwz]; exact (Below.refl _ _).alloc (Nat.le_refl _) _
  have hBz : Blk wz w2.heap.size 73 #[.nilFunc] := by rw [← hwz]; exact Blk.new _ _ _
  rw [hq] at hB1
  rw [hn1] at hB2
  rw [hn2] at hBz
  obtain ⟨w3, hw3⟩ : ∃ W, wz.setCell ⟨q2, 0, none⟩ cl = W := ⟨_, rfl⟩
  have hB3 : Blk w3 q2 73 #[cl] := by
    have : Blk (wz.setCell ⟨q2, 0, none⟩ cl) q2 73 #[cl] := by simpa using hBz.set_ 0 cl
    rw [← hw3]; exact this
  have hb3 : Below w2.heap.size w2 w3 := by rw [← hw3]; exact hbz.trans ((Off.setc wz q2 0 cl).below (by rw [hn2]; have := hBz.lt; omega) (fun k h => by subst h; omega))
  have h23 := hB2.below hb3 hB2.lt
  have h13 := (hB1.below hb2 hB1.lt).below hb3 (Nat.lt_of_lt_of_le hB1.lt hb2.size)
  obtain ⟨X, hX⟩ : ∃ X : Nat → Prop, X = fun k => k < q ∨ k = q ∨ k = q2 := ⟨_, rfl⟩
  have hS3 : IsS q X q1 [] w3 := ⟨none, 0, 0, h23, by omega, rfl, World.ownsRow_nil _ _ _ _, (by intro h; cases h), fun k hk => by
    rw [hX] at hk
    have := hB3.lt
    exact ⟨by omega, by omega, by intro h; cases h⟩⟩
  have h03 : Below w.heap.size w w3 := hb1.trans ((hb2.trans (hb3.mono hb2.size)).mono hb1.size)
  have hT3 : TyK A ks X w3 := (show TyK A ks (fun k => k < w.heap.size) w from hT).more (fun k hk => by rw [hX]; rw [hq] at hk; exact .inl hk) (Off.of_new h03 _)
  have x0 : w3.cell? ⟨q, 0, none⟩ = some (.int .u8 (k : Int)) := h13.cell 0
  have x1 : w3.cell? ⟨q, 1, none⟩ = some (.string (str nm)) := h13.cell 1
  have x2 : w3.cell? ⟨q, 2, none⟩ = some (.int .i64 n) := h13.cell 2
  have x3 : w3.cell? ⟨q, 3, none⟩ = some (.slice A kl c) := h13.cell 3
  have xk : w3.cell? ⟨q2, 0, none⟩ = some cl := hB3.cell 0
  have yk : wz.cell? ⟨q2, 0, none⟩ = some .nilFunc := hBz.cell 0
  have yf : wz.frozen? ⟨q2, 0, none⟩ = false := hBz.frozen 0
  have hC := names1_any (.node k nm n ks) hsm A c q X q1 q2 [] w3 hS3 (by rw [hX]; exact .inr (.inr rfl)) (by rw [xk, hcl]) hT3 (by rw [List.length_nil, Nat.zero_add]; exact hl)
  change Calls Tryz.prog 29 #[.agg #[.int .u8 (k : Int), .string (str nm), .int .i64 n, .slice A ks.length c], .pointer (some ⟨q1, 0, none⟩), .pointer (some ⟨q2, 0, none⟩)] w3 (fun e w' => e = .returned (.tuple #[]) ∧ IsS q X q1 ([] ++ namesT (.node k nm n ks)) w' ∧ Off (fun k => ¬ X k) w3 w') at hC
  rw [hkl, hnt, List.nil_append] at hC
  have HC := Lib.hid hC
  have HE : Hid (∀ w4, Off (fun k => ¬ X k) w3 w4 → Below q w w4) := Lib.hid fun w4 h => by
    rw [hq] at h03
    exact h03.trans (h.below (by have := h03.size; omega) (fun k hk => by
      rcases Nat.lt_or_ge k q with h | h
      · exact absurd (show X k by rw [hX]; exact .inl h) hk
      · exact h))
  subst hcl
  have HW := Lib.hid (And.intro hw1 (And.intro hq (And.intro hw2 (And.intro hn1 (And.intro hwz (And.intro hn2 (And.intro hw3 (And.intro hq1 (show q1 + 1 = q2 by omega)))))))))
  rw [hq, hkl, hnt]
  clear hT hkl hnt hq hw1 hb1 hB1 hn1 hw2 hb2 hB2 hn2 hw3 hb3 hB3 hwz hbz hBz hq1 hq2 h23 h13 hX hS3 h03 hT3 hC hl hsm
  go_enter Tryz.func21, Tryz.ntmps21
  go_upto_region 3 with fail
  (try rw [HW.out.1])
  (try rw [HW.out.2.1])
  (try rw [HW.out.2.2.1])
  (try rw [HW.out.2.2.2.1])
  (try rw [HW.out.2.2.2.2.1])
  (try rw [HW.out.2.2.2.2.2.1])
  (try rw [HW.out.2.2.2.2.2.2.2.1])
  (try rw [HW.out.2.2.2.2.2.2.2.2])


  go_upto_region 4 with fail
  (try rw [HW.out.2.2.2.2.2.2.1])
  clear HW
  go_wp2_with fail
  refine HC.out.mono ?_
  rintro e w4 ⟨rfl, ⟨lA, ln, lc, h4⟩, o4⟩
  have v0 := h4.at_.cell 0
  simp only [List.getElem?_toArray, List.getElem?_cons_zero] at v0
  have HP := Lib.hid (And.intro h4.len (And.intro h4.row (HE.out w4 o4)))
  clear h4 o4 x0 x1 x2 x3 xk HC
  go_wp2_with fail
  go_ret
  exact ⟨⟨_, _, _, rfl, HP.out.1, HP.out.2.1⟩, HP.out.2.2⟩
end Go.Proofs.YtadogebhkldeiaaGreatDoor
