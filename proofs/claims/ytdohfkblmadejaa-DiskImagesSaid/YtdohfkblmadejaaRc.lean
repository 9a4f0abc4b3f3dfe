/- The reference's Read and Write. -/
import Derived.Test.YtdohfkblmadejaaRb
namespace Go.Proofs.Ytdohfkblmadejaa
open Go.RowKit Dsk

theorem rread_dead (g n c armed steps : Nat) (A : Option Addr) (pv : Value) (i : Int) (w : World) (h : RHead w g A n c pv true armed steps) :
    Calls Try.prog 38 #[.pointer (some ⟨g, 0, none⟩), .int .i64 i] w fun e w' => e = .returned (.tuple #[.slice none 0 0, .int .i64 4]) ∧ w = w' := by
  have h2 := h.c2
  clear h
  go_enter Try.func38, Try.ntmps38
  go_wp2
  go_ret2
  exact ⟨rfl, rfl⟩
theorem rread_out (g n c armed steps : Nat) (A : Option Addr) (pv : Value) (i : Int) (w : World) (h : RHead w g A n c pv false armed steps) (hi : i < 0 ∨ (n : Int) ≤ i) :
    Calls Try.prog 38 #[.pointer (some ⟨g, 0, none⟩), .int .i64 i] w fun e w' => e = .returned (.tuple #[.slice none 0 0, .int .i64 1]) ∧ w = w' := by
  have h2 := h.c2
  have h0 := h.c0
  clear h
  by_cases h1 : i < 0
  · have hd : decide (i < 0) = true := by simpa using h1
    go_enter Try.func38, Try.ntmps38
    go_wp2
    go_ret2
    exact ⟨rfl, rfl⟩
  · have hd : decide (i < 0) = false := by simpa using h1
    have hd2 : decide ((n : Int) ≤ i) = true := by simp; omega
    clear hi
    go_enter Try.func38, Try.ntmps38
    go_wp2
    go_ret2
    exact ⟨rfl, rfl⟩

theorem overlay_take (s : Nat) (P : List (Nat × List UInt8)) (b : List UInt8) (k : Nat) (p : Nat × List UInt8) (h : P[k]? = some p) : overlay s (P.take (k + 1)) b = if p.1 = s then p.2 else overlay s (P.take k) b := by
  obtain ⟨hk, e⟩ := List.getElem?_eq_some_iff.1 h
  rw [List.take_succ_eq_append_getElem hk, overlay_snoc, e]

/-- What the reference's Read answers of a sector. -/
def RPost (w : World) (bs : List UInt8) (e : Ending) (w' : World) : Prop :=
  (bs = [] ∧ e = .returned (.tuple #[.slice none 0 0, .int .i64 5]) ∧ w = w') ∨
  (∃ c, bs ≠ [] ∧ e = .returned (.tuple #[.slice (some ⟨w.heap.size, 0, none⟩) bs.length c, .int .i64 0]) ∧ Rw w' w.heap.size bs.length c bs ∧ Below w.heap.size w w')

set_option maxHeartbeats 1000000 in
theorem rread_in (g gs c s : Nat) (pv : Value) (D : DS) (E : Nat → Prop) (w : World) (h : Rk w E g gs c pv D) (hd : D.dead = false) (hs : s < D.S.length) (hP : D.P.length < 1000000) :
    Calls Try.prog 38 #[.pointer (some ⟨g, 0, none⟩), .int .i64 (s : Int)] w (RPost w (readS D s)) := by
  have hh := h.hd
  have c0 := hh.c0
  have c1 := hh.c1
  have c2 := hh.c2
  rw [hd] at c2
  obtain ⟨A, cp, rfl, hle, hmx⟩ := h.pend.shape
  obtain ⟨v, hv, hsec⟩ := h.secs.at_ (List.getElem?_eq_getElem hs)
  have HPEND := Lib.hid h.pend
  have hg : D.S.getD s [] = D.S[s] := by simp [List.getD, hs]
  have hsec0 : Hid (Sec w (fun _ => True) v (overlay s (D.P.take 0) (D.S.getD s []))) := Lib.hid (by rw [hg]; exact hsec.mono fun _ _ => trivial)
  have hlenS : Hid (∀ k, (overlay s (D.P.take k) (D.S.getD s [])).length ≤ 256) := Lib.hid fun k => by
    rcases overlay_last s (D.S.getD s []) (D.P.take k) with ⟨_, h2⟩ | ⟨j, _, h2, h3⟩
    · rw [h2, hg]; rcases h.ok.sec _ (List.getElem_mem hs) with e | e <;> simp [e]
    · have := (h.ok.pend _ (List.mem_of_mem_take (List.mem_of_getElem? h3))).2; simp only at this; omega
  have hn := h.ok.hi
  have hs1 : decide ((s : Int) < 0) = false := by simp
  have hs2 : decide ((D.S.length : Int) ≤ (s : Int)) = false := by simp; omega
  have hs3 : decide (D.S.length ≤ s) = false := by simp; omega
  have hs4 : (0 : Int) ≤ (s : Int) := by omega
  have HRS : Hid (overlay s (D.P.take D.P.length) (D.S.getD s []) = readS D s) := Lib.hid (by rw [List.take_length]; rfl)
  clear h hh hd hsec hg
  generalize hm : D.P.length = m at *
  have HM := Lib.hid hm
  generalize D.S.getD s [] = b0 at *
  generalize D.S.length = n at *
  clear hm
  go_enter Try.func38, Try.ntmps38
  go_wp2
  go_loop [6, 7] (fun v i => ∃ k : Nat, k ≤ m ∧ i = .int .i64 (k : Int) ∧ Hid (Sec w (fun _ => True) v (overlay s (D.P.take k) b0))) (fun _ i => m - (intOf i).toNat)
  case atStart => exact ⟨0, Nat.zero_le _, rfl, hsec0⟩
  case round =>
    obtain ⟨k, hk, rfl, hS⟩ := hrel
    clear hsec0
    by_cases hlt : k < m
    · have hd : decide ((k : Int) < (m : Int)) = true := by simpa using hlt
      obtain ⟨⟨ps, pb⟩, hpk⟩ : ∃ p, D.P[k]? = some p := ⟨_, List.getElem?_eq_getElem (by rw [HM.out]; exact hlt)⟩
      obtain ⟨r, cc, v, er, hr, q1, q2, hsec⟩ := HPEND.out.at_ hpk
      injection er with er1 er2 er3
      subst er1
      have hov := overlay_take s D.P b0 k (ps, pb) hpk
      have HSEC := Lib.hid (hsec.mono fun _ _ => trivial)
      obtain ⟨Av, cv, ev, _⟩ := hsec
      subst ev
      have hrk : k * 2 + 1 < 3000000 := by omega
      simp only at q1 hov
      by_cases he : ps = s
      · have e1 : ((ps : Int) == (s : Int)) = true := by simp [he]
        have e2 : (ps == s) = true := by simp [he]
        rw [if_pos he] at hov
        have HN2 : Hid (Sec w (fun _ => True) (.slice Av pb.length cv) (overlay s (D.P.take (k + 1)) b0)) := Lib.hid (by rw [hov]; exact HSEC.out)
        clear hov he hpk er2 er3
        go_wp2
        go_round
        case rel => exact ⟨k + 1, by omega, by go_num, HN2⟩
        case measure => simp [intOf]; omega
      · have e1 : ((ps : Int) == (s : Int)) = false := by simp; omega
        have e2 : (ps == s) = false := by simp; omega
        rw [if_neg he] at hov
        rename_i vb _
        have HN2 : Hid (Sec w (fun _ => True) _ (overlay s (D.P.take (k + 1)) b0)) := Lib.hid (by rw [hov]; exact hS.out)
        clear hov he hpk er2 er3
        go_wp2
        go_round
        case rel => exact ⟨k + 1, by omega, by go_num, HN2⟩
        case measure => simp [intOf]; omega
    · obtain rfl : k = m := by omega
      have hd : decide ((k : Int) < (k : Int)) = false := by simp
      have hS1 := hS.out
      have hln := hlenS.out k
      have hrs := HRS.out
      rw [hrs] at hS1 hln
      obtain ⟨Av, cv, rfl, h1, h2, h3, _⟩ := hS1
      have H1 := Lib.hid (copy_any Av (readS D s).length cv (readS D s) w rfl h3 (by unfold maxLen; omega))
      clear hS hrs HRS h3 HPEND hlenS
      have hL2 := hln
      generalize readS D s = bs at *
      by_cases h0 : bs = []
      · subst h0
        go_wp2
        go_ret2
        exact .inl ⟨rfl, rfl, rfl⟩
      · have hl0 : 0 < bs.length := List.length_pos_iff.2 h0
        have HPO : Hid (∀ c' w', Rw w' w.heap.size bs.length c' bs → Below w.heap.size w w' → RPost w bs (.returned (.tuple #[.slice (some ⟨w.heap.size, 0, none⟩) bs.length c', .int .i64 0])) w') := Lib.hid fun c' w' h1 h2 => .inr ⟨c', h0, rfl, h1, h2⟩
        clear h0
        generalize bs.length = L at *
        have hd2 : ((L : Int) == 0) = false := by simp; omega
        have hd3 : (L == 0) = false := by simp; omega
        go_wp2_with fail
        refine H1.out.mono ?_
        rintro e w' ⟨c', rfl, hRw, hb⟩
        have HFIN := Lib.hid (HPO.out c' w' hRw hb)
        clear hRw hb
        go_wp2_with fail
        go_ret2
        exact HFIN.out

theorem Ref.read_no (g : Nat) (F : Nat → Prop) (D : DS) (i : Int) (w : World) (h : Ref w F g D) (hP : D.P.length < 1000000) (he : readE D i ≠ 0) :
    Calls Try.prog 38 #[.pointer (some ⟨g, 0, none⟩), .int .i64 i] w fun e w' => e = .returned (.tuple #[.slice none 0 0, .int .i64 (readE D i)]) ∧ w = w' := by
  obtain ⟨E, gs, c, pv, hk, _⟩ := h
  by_cases hr : refuse D.dead D.S.length i = 0
  · obtain ⟨hd, s, rfl, hs⟩ := refuse_zero hr
    unfold readE at he ⊢
    rw [if_pos hr, Int.toNat_natCast] at he ⊢
    by_cases hb : readS D s = []
    · rw [if_pos hb]
      refine (rread_in g gs c s pv D E w hk hd hs hP).mono ?_
      rintro e w' (⟨_, rfl, rfl⟩ | ⟨c, hne, _⟩)
      · exact ⟨rfl, rfl⟩
      · exact absurd hb hne
    · rw [if_neg hb] at he; exact absurd rfl he
  · have e : readE D i = refuse D.dead D.S.length i := by unfold readE; rw [if_neg hr]
    rw [e]
    have hh := hk.hd
    by_cases hd : D.dead = true
    · rw [hd] at hh ⊢
      exact rread_dead g _ _ _ _ _ _ i w hh
    · have hd' : D.dead = false := by simpa using hd
      rw [hd'] at hh hr ⊢
      have hi : i < 0 ∨ (D.S.length : Int) ≤ i := by
        unfold refuse at hr
        rw [if_neg (by decide)] at hr
        by_cases h : i < 0 ∨ (D.S.length : Int) ≤ i
        · exact h
        · rw [if_neg h] at hr; exact absurd rfl hr
      have e2 : refuse false D.S.length i = 1 := by unfold refuse; rw [if_neg (by decide), if_pos hi]
      rw [e2]
      exact rread_out g _ _ _ _ _ _ i w hh hi
theorem Ref.read_yes (g : Nat) (F : Nat → Prop) (D : DS) (i : Int) (w : World) (h : Ref w F g D) (hP : D.P.length < 1000000) (he : readE D i = 0) :
    Calls Try.prog 38 #[.pointer (some ⟨g, 0, none⟩), .int .i64 i] w fun e w' => ∃ c, e = .returned (.tuple #[.slice (some ⟨w.heap.size, 0, none⟩) 256 c, .int .i64 0]) ∧ Rw w' w.heap.size 256 c (readS D i.toNat) ∧ Below w.heap.size w w' := by
  obtain ⟨E, gs, c, pv, hk, _⟩ := h
  by_cases hr : refuse D.dead D.S.length i = 0
  · obtain ⟨hd, s, rfl, hs⟩ := refuse_zero hr
    unfold readE at he
    rw [if_pos hr, Int.toNat_natCast] at he
    rw [Int.toNat_natCast]
    by_cases hb : readS D s = []
    · rw [if_pos hb] at he; cases he
    · have hlen : (readS D s).length = 256 := by
        rcases readS_len hk.ok s with h | h
        · exact absurd h hb
        · exact h
      refine (rread_in g gs c s pv D E w hk hd hs hP).mono ?_
      rintro e w' (⟨h, _⟩ | ⟨c, _, rfl, h2, h3⟩)
      · exact absurd h hb
      · rw [hlen] at h2 ⊢
        exact ⟨c, rfl, h2, h3⟩
  · exfalso
    unfold readE at he
    rw [if_neg hr] at he
    exact hr he

/-! ### Write -/
theorem rwrite_dead (g n c armed steps : Nat) (A : Option Addr) (pv v : Value) (i : Int) (w : World) (h : RHead w g A n c pv true armed steps) :
    Calls Try.prog 39 #[.pointer (some ⟨g, 0, none⟩), .int .i64 i, v] w fun e w' => e = .returned (.int .i64 4) ∧ w = w' := by
  have h2 := h.c2
  clear h
  go_enter Try.func39, Try.ntmps39
  go_wp2
  go_ret
  exact ⟨rfl, rfl⟩

set_option maxHeartbeats 1000000 in
theorem rwrite_arg (g n c armed steps len cap : Nat) (A B : Option Addr) (pv : Value) (i : Int) (bs : List UInt8) (w : World) (h : RHead w g A n c pv false armed steps) (hlen : bs.length = len) (hB : Bytes w B bs) (hn : i < 0 ∨ (n : Int) ≤ i ∨ 256 < len) :
    Calls Try.prog 39 #[.pointer (some ⟨g, 0, none⟩), .int .i64 i, .slice B len cap] w fun e w' => e = .returned (.int .i64 1) ∧ Below w.heap.size w w' := by
  have h2 := h.c2
  have hg := World.block_lt_of_cell? w _ h2
  have hF : ∃ v b, Calls Try.prog 25 #[.slice B len cap, .int .i64 256] w fun e w' => e = .returned (.tuple #[v, .bool b]) ∧ Below w.heap.size w w' ∧ (256 < len → b = false) := by
    by_cases hl : 256 < len
    · exact ⟨_, _, (reffill_no B len cap 256 w (.inl (by omega))).mono fun e w' ⟨h1, h2⟩ => ⟨h1, h2 ▸ Below.refl _ _, fun _ => rfl⟩⟩
    · exact ⟨_, _, (reffill_ok B len cap 256 bs w hlen (by omega) (by decide) hB).mono fun e w' ⟨h1, _, h3⟩ => ⟨h1, h3, fun h => absurd h hl⟩⟩
  obtain ⟨v, b, hF⟩ := hF
  have HF := Lib.hid hF
  have c0 := h.c0
  clear h hB hF hlen
  by_cases h1 : i < 0
  · have hd : decide (i < 0) = true := by simpa using h1
    go_enter Try.func39, Try.ntmps39
    go_wp2_with fail
    refine HF.out.mono ?_
    rintro e w1 ⟨rfl, hb, _⟩
    have HB := Lib.hid hb
    clear hb
    go_wp2_with fail
    go_ret
    exact ⟨rfl, HB.out⟩
  · have hd : decide (i < 0) = false := by simpa using h1
    by_cases h3 : (n : Int) ≤ i
    · have hd2 : decide ((n : Int) ≤ i) = true := by simpa using h3
      go_enter Try.func39, Try.ntmps39
      go_wp2_with fail
      refine HF.out.mono ?_
      rintro e w1 ⟨rfl, hb, _⟩
      have c0' := (hb.cell (p := ⟨g, 0, none⟩) hg).trans c0
      have HB := Lib.hid hb
      clear hb
      go_wp2_with fail
      go_ret
      exact ⟨rfl, HB.out⟩
    · have hd2 : decide ((n : Int) ≤ i) = false := by simpa using h3
      have h4 : 256 < len := by omega
      go_enter Try.func39, Try.ntmps39
      go_wp2_with fail
      refine HF.out.mono ?_
      rintro e w1 ⟨rfl, hb, hbf⟩
      obtain rfl := hbf h4
      have c0' := (hb.cell (p := ⟨g, 0, none⟩) hg).trans c0
      have HB := Lib.hid hb
      clear hb
      go_wp2_with fail
      go_ret
      exact ⟨rfl, HB.out⟩

/-- Behind the append, and the store. -/
theorem Rk.pushed {w w2 : World} {E : Nat → Prop} {g gs c : Nat} {rv v' : Value} {D : DS} (h : Rk w E g gs c rv D) {s : Nat} {b : List UInt8} (hs : s < D.S.length) (hb : b.length = 256)
    (hp : Pend w2 78 E v' (D.P ++ [(s, b)])) (hg : w.grownBy w2 rv.ownBlock) (ho : v'.ownBlock = rv.ownBlock ∨ v'.ownBlock = some w.heap.size) (hEl : ∀ k, E k → k < w.heap.size) :
    Rk (w2.setCell ⟨g, 1, none⟩ v') E g gs c v' (pushD D s b) := by
  have hgl := h.secs.lt
  have hgg := h.head.lt
  have far : ∀ k, k < w.heap.size → rv.ownBlock ≠ some k → w2.heap[k]? = w.heap[k]? := fun k hk hn => hg.block k hk (fun e => hn e.symm)
  have ng : rv.ownBlock ≠ some g := fun e => (h.e4 g e).2.1 rfl
  have nl : rv.ownBlock ≠ some gs := fun e => (h.e4 gs e).2.2 rfl
  have nE : ∀ k, E k → rv.ownBlock ≠ some k := fun k hk e => (h.e4 k e).1 hk
  have vne : ∀ k, k < w.heap.size → rv.ownBlock ≠ some k → v'.ownBlock ≠ some k := fun k hk hn e => by
    rcases ho with ho | ho
    · exact hn (ho ▸ e)
    · rw [ho] at e; injection e with e; omega
  have st : ∀ k, k ≠ g → (w2.setCell ⟨g, 1, none⟩ v').heap[k]? = w2.heap[k]? := fun k h1 => Below.heap_setCell _ _ _ _ h1
  have sz : w2.heap.size = (w2.setCell ⟨g, 1, none⟩ v').heap.size := by simp [World.setCell]
  have En : ∀ k, E k → k ≠ g := fun k hk e => h.e1 (e ▸ hk)
  refine ⟨pushD_ok h.ok hs hb, h.cap, ?_, ?_, ?_, h.e1, h.e2, fun k hk => ?_, h.n1⟩
  · have h1 : Blk w2 g _ _ := h.head.same (far g hgg ng)
    have h2 := h1.set_ 1 v'
    simp only [List.setIfInBounds_toArray, List.set_cons_succ, List.set_cons_zero] at h2
    exact h2
  · exact h.secs.same (Nat.le_trans hg.size (Nat.le_of_eq sz)) (fun k hk hl => (st k (En k hk)).trans (far k hl (nE k hk))) ((st gs h.n1.symm).trans (far gs hgl nl))
  · exact hp.same (Nat.le_of_eq sz) (fun k hk _ => st k (En k hk)) (fun k hk => st k (fun e => vne g hgg ng (e ▸ hk)))
  · exact ⟨fun e => vne k (hEl k e) (nE k e) hk, fun e => vne g hgg ng (e ▸ hk), fun e => vne gs hgl nl (e ▸ hk)⟩

set_option maxHeartbeats 1000000 in
theorem rwrite_fits (g gs c len cap s : Nat) (B : Option Addr) (rv : Value) (bs : List UInt8) (D : DS) (E : Nat → Prop) (w : World) (h : Rk w E g gs c rv D) (hEl : ∀ k, E k → k < w.heap.size) (hd : D.dead = false) (hs : s < D.S.length) (hlen : bs.length = len) (hl : len ≤ 256) (hB : Bytes w B bs)
    (hP : D.P.length < 1000000) (hS : D.steps < 1000000000) :
    Calls Try.prog 39 #[.pointer (some ⟨g, 0, none⟩), .int .i64 (s : Int), .slice B len cap] w fun e w' => e = .returned (.int .i64 (stepE (pushD D s (filled bs 256)))) ∧
      (∃ rv', Rk w' (fun k => E k ∨ k = w.heap.size) g gs c rv' (stepD (pushD D s (filled bs 256))) ∧ (rv'.ownBlock = rv.ownBlock ∨ ∃ r, rv'.ownBlock = some r ∧ w.heap.size ≤ r ∧ r < w'.heap.size)) ∧ Off (own3 g gs rv) w w' ∧ w.heap.size < w'.heap.size := by
  have HF := Lib.hid (reffill_ok B len cap 256 bs w hlen hl (by decide) hB)
  have hf : (filled bs 256).length = 256 := filled_length bs 256 (by omega)
  generalize filled bs 256 = fs at *
  have HK := Lib.hid h
  have HE := Lib.hid hEl
  have HFS := Lib.hid hf
  have HP := Lib.hid hP
  have HS := Lib.hid hS
  have hn := h.ok.hi
  have c2 := h.hd.c2
  rw [hd] at c2
  have hglt := h.head.lt
  have hs1 : decide ((s : Int) < 0) = false := by simp
  have hs2 : decide ((D.S.length : Int) ≤ (s : Int)) = false := by simp; omega
  have hs3 : decide (D.S.length ≤ s) = false := by simp; omega
  clear h hEl hB hlen hf hd hP hS
  go_enter Try.func39, Try.ntmps39
  go_wp2_with fail
  refine HF.out.mono ?_
  rintro e w1 ⟨rfl, hb1, hw1⟩
  have hsz1 : w.heap.size < w1.heap.size := hb1.lt
  have hK1 : Rk w1 (fun k => E k ∨ k = w.heap.size) g gs c rv D :=
    (HK.out.same hw1.size (fun k hk _ => hw1.block k hk)).mono _ (fun k hk ho => by have := (HK.out.own_lt k ho).1; omega)
  have hKa : Rk (w1.alloc (.cells #[.int .i64 (s : Int), .slice (some ⟨w.heap.size, 0, none⟩) 256 256] 78)) (fun k => E k ∨ k = w.heap.size) g gs c rv D := hK1.alloc _
  have hba : Blk (w1.alloc (.cells #[.int .i64 (s : Int), .slice (some ⟨w.heap.size, 0, none⟩) 256 256] 78)) w1.heap.size 78 #[.int .i64 (s : Int), .slice (some ⟨w.heap.size, 0, none⟩) 256 256] := Blk.new _ _ _
  have hsec : Sec (w1.alloc (.cells #[.int .i64 (s : Int), .slice (some ⟨w.heap.size, 0, none⟩) 256 256] 78)) (fun k => E k ∨ k = w.heap.size) (.slice (some ⟨w.heap.size, 0, none⟩) 256 256) fs :=
    Sec.of_blk (hb1.alloc _) (.inr rfl) (by rw [HFS.out]; decide) 256 HFS.out
  obtain ⟨v', w2, hrun, hp2, hg2, ho2⟩ := Pend.push (T := 44) hKa.pend (by kernel_rfl) (by kernel_rfl) (s, fs) _ hsec w1.heap.size (hba.cell 0) (hba.cell 1) (fun k hk => (hKa.e4 k hk).1) HP.out
  have hEl : ∀ k, (E k ∨ k = w.heap.size) → k < (w1.alloc (.cells #[.int .i64 (s : Int), .slice (some ⟨w.heap.size, 0, none⟩) 256 256] 78)).heap.size := fun k hk => by
    rw [World.size_alloc]
    rcases hk with hk | rfl
    · have := HE.out k hk; omega
    · omega
  have hK4 := hKa.pushed (b := fs) hs HFS.out hp2 hg2 ho2 hEl
  have hsz2 := hg2.size
  rw [World.size_alloc] at hsz2
  have hgl := hKa.head.lt
  have ng : some g ≠ rv.ownBlock := fun e => (HK.out.e4 g e.symm).2.1 rfl
  have h2 : Blk w2 g _ _ := hKa.head.grown hg2 ng
  obtain ⟨A', c', ev, _, _⟩ := hp2.shape
  have hlen2 : (D.P ++ [(s, fs)]).length = D.P.length + 1 := by simp
  rw [hlen2] at ev
  have hPl := HP.out
  have hbel : Off (own3 g gs rv) w (w2.setCell ⟨g, 1, none⟩ v') :=
    (((Off.of_new hw1 _).then (Off.alloc (own3 g gs rv) w1 _) (fun _ _ => id)).then (Off.of_grown hg2) (fun k _ hk => .inr (.inr hk))).then
      ((Off.setc w2 g 1 v').mono (G := own3 g gs rv) (fun k _ e => .inl e)) (fun _ _ => id)
  have hrow : v'.ownBlock = rv.ownBlock ∨ ∃ r, v'.ownBlock = some r ∧ w.heap.size ≤ r ∧ r < w2.heap.size := by
    rcases ho2 with ho2 | ho2
    · exact .inl ho2
    · rw [World.size_alloc] at ho2
      exact .inr ⟨_, ho2, by omega, hp2.lt _ ho2⟩
  subst ev
  have g0' : w1.cell? ⟨g, 0, none⟩ = _ := hK1.hd.c0
  have g1' : w1.cell? ⟨g, 1, none⟩ = some rv := hK1.hd.c1
  have c21 := h2.cell 1
  have f2 := h2.frozen 1
  simp only [List.getElem?_toArray, List.getElem?_cons_zero, List.getElem?_cons_succ] at c21
  have h4 := rstep_hd g _ _ _ _ _ _ _ _ hK4.hd HS.out hK4.ok.armed
  have e4 : rstepB (pushD D s fs).dead (pushD D s fs).armed = (stepD (pushD D s fs)).dead := rfl
  rw [e4] at h4
  have HS4 := Lib.hid h4
  have HK4 := Lib.hid hK4.step_
  have HOF := Lib.hid (rstepW_off (w2.setCell ⟨g, 1, none⟩ (.slice A' (D.P.length + 1) c')) g (pushD D s fs).armed (pushD D s fs).steps)
  have HBEL := Lib.hid hbel
  have HROW := Lib.hid hrow
  have HRUN := Lib.hid hrun
  have hi : (0 : Int) ≤ (s : Int) := by omega
  have hSE : Hid ((stepD (pushD D s fs)).dead = true → stepE (pushD D s fs) = 4) := Lib.hid fun h => by unfold stepE; rw [h]; rfl
  have hSE' : Hid ((stepD (pushD D s fs)).dead = false → stepE (pushD D s fs) = 0) := Lib.hid fun h => by unfold stepE; rw [h]; rfl
  clear hK1 hKa hba hsec hrun hp2 hg2 ho2 hEl hK4 h2 hlen2 hbel hrow HF hb1 hw1 ng h4 e4
  go_wp2_with (at_builtin; refine wpList_app rfl _ _ 44 rfl _ _ _ _ rfl rfl HRUN.out ?_; clear HRUN)
  refine HS4.out.mono ?_
  rintro e w' ⟨rfl, rfl⟩
  have HFIN : Hid ((∃ rv', Rk (rstepW (w2.setCell ⟨g, 1, none⟩ (.slice A' (D.P.length + 1) c')) g (pushD D s fs).armed (pushD D s fs).steps) (fun k => E k ∨ k = w.heap.size) g gs c rv' (stepD (pushD D s fs)) ∧ (rv'.ownBlock = rv.ownBlock ∨ ∃ r, rv'.ownBlock = some r ∧ w.heap.size ≤ r ∧ r < (rstepW (w2.setCell ⟨g, 1, none⟩ (.slice A' (D.P.length + 1) c')) g (pushD D s fs).armed (pushD D s fs).steps).heap.size)) ∧
      Off (own3 g gs rv) w (rstepW (w2.setCell ⟨g, 1, none⟩ (.slice A' (D.P.length + 1) c')) g (pushD D s fs).armed (pushD D s fs).steps) ∧ w.heap.size < (rstepW (w2.setCell ⟨g, 1, none⟩ (.slice A' (D.P.length + 1) c')) g (pushD D s fs).armed (pushD D s fs).steps).heap.size) := by
    refine Lib.hid ⟨⟨_, HK4.out, ?_⟩, ?_, ?_⟩
    · rcases HROW.out with h | ⟨r, h1, h2, h3⟩
      · exact .inl h
      · exact .inr ⟨r, h1, h2, Nat.lt_of_lt_of_le h3 (by rw [rstepW_size]; simp [World.setCell])⟩
    · exact HBEL.out.trans (HOF.out.mono fun k _ e => .inl e)
    · rw [rstepW_size]
      simp [World.setCell]; omega
  clear HS4 HK4 HOF HBEL HROW
  cases hq : (stepD (pushD D s fs)).dead
  · have HSE := Lib.hid (hSE'.out hq)
    clear hSE hSE' hq
    go_wp2_with fail
    go_ret
    exact ⟨by rw [HSE.out]; rfl, HFIN.out⟩
  · have HSE := Lib.hid (hSE.out hq)
    clear hSE hSE' hq
    go_wp2_with fail
    go_ret
    exact ⟨by rw [HSE.out]; rfl, HFIN.out⟩

theorem Ref.write_ (g len cap : Nat) (B : Option Addr) (F : Nat → Prop) (D : DS) (i : Int) (bs : List UInt8) (w : World) (h : Ref w F g D) (hlen : bs.length = len) (hB : Bytes w B bs) (hP : D.P.length < 1000000) (hS : D.steps < 1000000000) :
    Calls Try.prog 39 #[.pointer (some ⟨g, 0, none⟩), .int .i64 i, .slice B len cap] w fun e w' => e = .returned (.int .i64 (writeE D i bs)) ∧ Ref w' (grow F w w') g (writeD D i bs) ∧ Off F w w' := by
  have hD := h
  have grown : ∀ {w' : World}, Below w.heap.size w w' → Ref w' (grow F w w') g D ∧ Off F w w' := fun {w'} hb => by
    obtain ⟨E, gs, c, pv, hk, h1, h2, h3⟩ := hD.below hb
    exact ⟨⟨E, gs, c, pv, hk, fun k hk' => .inl (h1 k hk'), fun k hk' => .inl (h2 k hk'), fun k hk' => hk'.elim (h3 k) fun e => e.2⟩, Off.of_new hb _⟩
  obtain ⟨E, gs, c, rv, hk, h1, h2, h3⟩ := h
  by_cases hn : refuse D.dead D.S.length i = 0 ∧ len ≤ 256
  · obtain ⟨hr, hl⟩ := hn
    obtain ⟨hd, s, rfl, hs⟩ := refuse_zero hr
    have e1 : writeE D s bs = stepE (pushD D s (filled bs 256)) := by unfold writeE; rw [if_pos hr, if_pos (by omega), Int.toNat_natCast]
    have e2 : writeD D s bs = stepD (pushD D s (filled bs 256)) := by unfold writeD; rw [if_pos ⟨hr, by omega⟩, Int.toNat_natCast]
    rw [e1, e2]
    refine (rwrite_fits g gs c len cap s B rv bs D E w hk (fun k hk' => h3 k (h1 k hk')) hd hs hlen hl hB hP hS).mono ?_
    rintro e w' ⟨rfl, ⟨rv', hk', ho⟩, hof, hsz⟩
    refine ⟨rfl, ⟨_, gs, c, rv', hk', fun k hk2 => ?_, fun k hk2 => ?_, fun k hk2 => ?_⟩, hof.mono fun k _ => h2 k⟩
    · rcases hk2 with hk2 | rfl
      · exact .inl (h1 k hk2)
      · exact .inr ⟨Nat.le_refl _, hsz⟩
    · rcases hk2 with rfl | rfl | hk2
      · exact .inl (h2 _ (.inl rfl))
      · exact .inl (h2 _ (.inr (.inl rfl)))
      · rcases ho with ho | ⟨r, ho, hr1, hr2⟩
        · exact .inl (h2 _ (.inr (.inr (ho ▸ hk2))))
        · rw [ho] at hk2; injection hk2 with hk2; subst hk2
          exact .inr ⟨hr1, hr2⟩
    · rcases hk2 with hk2 | hk2
      · have := h3 k hk2; have := hof.size; omega
      · exact hk2.2
  · rw [writeD_no (by rw [hlen]; exact hn)]
    have hh := hk.hd
    by_cases hd : D.dead = true
    · rw [hd] at hh
      have e1 : writeE D i bs = 4 := by unfold writeE; rw [hd, show refuse true D.S.length i = 4 from rfl]; rfl
      rw [e1]
      refine (rwrite_dead g _ _ _ _ _ _ _ i w hh).mono ?_
      rintro e w' ⟨rfl, rfl⟩
      exact ⟨rfl, grown (Below.refl _ _)⟩
    · have hd' : D.dead = false := by simpa using hd
      rw [hd'] at hh hn
      have hi : i < 0 ∨ (D.S.length : Int) ≤ i ∨ 256 < len := by
        by_cases h : i < 0 ∨ (D.S.length : Int) ≤ i
        · omega
        · have : refuse false D.S.length i = 0 := by unfold refuse; rw [if_neg (by decide), if_neg h]
          have : ¬ len ≤ 256 := fun e => hn ⟨this, e⟩
          omega
      have e1 : writeE D i bs = 1 := by
        unfold writeE
        rw [hd']
        by_cases h : i < 0 ∨ (D.S.length : Int) ≤ i
        · have : refuse false D.S.length i = 1 := by unfold refuse; rw [if_neg (by decide), if_pos h]
          rw [this, if_neg (by decide)]
        · have : refuse false D.S.length i = 0 := by unfold refuse; rw [if_neg (by decide), if_neg h]
          rw [this, if_pos rfl, if_neg (by rw [hlen]; omega)]
      rw [e1]
      refine (rwrite_arg g _ _ _ _ len cap _ B _ i bs w hh hlen hB hi).mono ?_
      rintro e w' ⟨rfl, hb⟩
      exact ⟨rfl, grown hb⟩

end Go.Proofs.Ytdohfkblmadejaa
