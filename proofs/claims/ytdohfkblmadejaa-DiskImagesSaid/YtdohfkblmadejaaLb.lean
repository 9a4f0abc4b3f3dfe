/- DiskLasts, walked. -/
import Derived.Test.YtdohfkblmadejaaLa
namespace Go.Proofs.Ytdohfkblmadejaa
open Go.RowKit Dsk

/-- Between the rounds of the first loop. -/
def LRun (w0 wr : World) (g j : Nat) (ls : List St) : Prop := ∃ D, Run w0 wr (fun _ => False) g D ∧ LInv ls j D
/-- Between the rounds of the second: what was read. -/
structure LRd (w2 wr : World) (D : DS) (s : Nat) (sv : Value) : Prop where
  own : SecsO wr (fun j => w2.heap.size ≤ j ∧ j < wr.heap.size ∧ sv.ownBlock ≠ some j) sv (readAll D s)
  lo : ∀ j, sv.ownBlock = some j → w2.heap.size ≤ j
  bel : Below w2.heap.size w2 wr

theorem LRd.step {w2 wr w3 : World} {D : DS} {s : Nat} {sv : Value} (h : LRd w2 wr D s sv) (hs : s < 1000) (hB : Blk w3 wr.heap.size 5 (row8 (readS D s))) (hl : (readS D s).length = 256) (hb : Below wr.heap.size wr w3) :
    ∃ v' w5, (Builtin.append_ #[42, 42] 42 #[sv, .slice (some ⟨w3.heap.size, 0, none⟩) 1 1]).run Try.prog (w3.alloc (.cells #[.slice (some ⟨wr.heap.size, 0, none⟩) 256 256] 32)) = .ok v' w5 ∧ LRd w2 w5 D (s + 1) v' := by
  have h2 := h.bel.size
  have h3 := hb.size
  have hlt := hB.lt
  have hol := h.own.lt
  have hb4 : Below wr.heap.size wr (w3.alloc (.cells #[.slice (some ⟨wr.heap.size, 0, none⟩) 256 256] 32)) := hb.alloc h3 _
  have hS : SecsO (w3.alloc (.cells #[.slice (some ⟨wr.heap.size, 0, none⟩) 256 256] 32)) (fun j => w2.heap.size ≤ j ∧ j < w3.heap.size ∧ sv.ownBlock ≠ some j) sv (readAll D s) :=
    (h.own.same hb4.size (fun j _ hj => hb4.block j hj) (fun j hj => hb4.block j (hol j hj))).mono fun j hj => ⟨hj.1, by omega, hj.2.2⟩
  have hB4 := hB.alloc (.cells #[.slice (some ⟨wr.heap.size, 0, none⟩) 256 256] 32)
  have hc := (Blk.new w3 32 #[.slice (some ⟨wr.heap.size, 0, none⟩) 256 256]).cell 0
  obtain ⟨v', w5, hrun, hp, hg, ho⟩ := hS.push (readS D s) _ (Sec.of_blk hB4 (⟨by omega, hlt, fun e => by have := hol _ e; omega⟩) (by rw [hl]; decide) 256 hl) w3.heap.size hc (fun j hj e => e.2.2 hj) (by rw [readAll_length]; omega)
  have hgs := hg.size
  rw [World.size_alloc] at hgs ho
  refine ⟨v', w5, hrun, ?_, ?_, ?_⟩
  · rw [readAll_succ]
    refine hp.mono fun j hj => ⟨hj.1, by omega, fun e => ?_⟩
    rcases ho with ho | ho
    · exact hj.2.2 (ho ▸ e)
    · rw [ho] at e; injection e with e; omega
  · intro j hj
    rcases ho with ho | ho
    · exact h.lo j (ho ▸ hj)
    · rw [ho] at hj; injection hj with hj; omega
  · exact (h.bel.trans (hb4.mono h2)).grown hg (by rw [World.size_alloc]; omega) h.lo

theorem Run.copy {w0 w : World} {X : Nat → Prop} {g : Nat} {D : DS} (h : Run w0 w X g D) (hP : D.P.length < 1000000) :
    Calls Try.prog 23 #[.pointer (some ⟨g, 0, none⟩)] w fun e w' => ∃ c, e = .returned (.pointer (some ⟨c, 0, none⟩)) ∧ Disk w' (fun k => w.heap.size ≤ k ∧ k < w'.heap.size) c D ∧ Below w.heap.size w w' := by
  obtain ⟨⟨F, ⟨E, gl, gi, rv, hk, _⟩, _⟩, _⟩ := h
  obtain ⟨A, c, rfl, _⟩ := hk.pend.shape
  exact copy_ok w g gl gi _ _ c A E D hk rfl rfl hP
theorem Run.pending {w0 w : World} {X : Nat → Prop} {g : Nat} {D : DS} (h : Run w0 w X g D) : Calls Try.prog 29 #[.pointer (some ⟨g, 0, none⟩)] w fun e w' => e = .returned (.int .i64 (D.P.length : Int)) ∧ w = w' := by
  obtain ⟨⟨F, h, _⟩, _⟩ := h
  exact Disk.pending_ g F D w h

/-- What has been laid by ahead of the loss. -/
structure LBun (w0 wl w2 w5 w6 wr : World) (sv : Value) (c : Nat) (D : DS) : Prop where
  was : Secs wr (fun j => wl.heap.size < j ∧ j < w2.heap.size) wl.heap.size D.S
  read : SecsO wr (fun j => wl.heap.size ≤ j ∧ j < w5.heap.size) sv (readAll D 16)
  rlo : ∀ j, sv.ownBlock = some j → wl.heap.size ≤ j ∧ j < w5.heap.size
  twin : Disk wr (fun k => w5.heap.size ≤ k ∧ k < w6.heap.size) c D
  le : w0.heap.size ≤ wl.heap.size ∧ wl.heap.size < w2.heap.size ∧ w2.heap.size ≤ w5.heap.size ∧ w5.heap.size ≤ w6.heap.size ∧ w6.heap.size ≤ wr.heap.size
theorem LBun.keep {w0 wl w2 w5 w6 wr w' : World} {sv : Value} {c : Nat} {D : DS} (h : LBun w0 wl w2 w5 w6 wr sv c D) (hk : Keep (fun k => wl.heap.size ≤ k ∧ k < w6.heap.size) wr w') : LBun w0 wl w2 w5 w6 w' sv c D := by
  have hl := h.le
  refine ⟨h.was.same hk.size (fun j hj _ => hk.at_ j ⟨by omega, by omega⟩) (hk.at_ _ ⟨Nat.le_refl _, by omega⟩), h.read.same hk.size (fun j hj _ => hk.at_ j ⟨hj.1, by omega⟩) (fun j hj => hk.at_ j ⟨(h.rlo j hj).1, by have := (h.rlo j hj).2; omega⟩), h.rlo, ?_, by have := hk.size; omega⟩
  obtain ⟨E, gl, gi, rv, hd, h1, h2, h3⟩ := h.twin
  exact ⟨E, gl, gi, rv, hd.same hk.size (fun k hlt e => by
    have := e.elim (h1 k) (h2 k)
    exact hk.at_ k ⟨by omega, this.2⟩), h1, h2, fun k hk' => Nat.lt_of_lt_of_le (h3 k hk') hk.size⟩

/-- Numbers that were appended. -/
structure NInv (w1 wr : World) (k : Nat) (rv : Value) : Prop where
  own : wr.ownsRow 0 3 1 rv k ((ints k).map fun z => Value.int .i64 z)
  lo : ∀ j, rv.ownBlock = some j → w1.heap.size ≤ j
  bel : Below w1.heap.size w1 wr
theorem NInv.nil (w1 : World) : NInv w1 w1 0 (.slice none 0 0) := ⟨World.ownsRow_nil _ _ _ _, fun j hj => (by cases hj), Below.refl _ _⟩
theorem NInv.shape {w1 wr : World} {k : Nat} {rv : Value} (h : NInv w1 wr k rv) : ∃ A c, rv = .slice A k c ∧ k ≤ c ∧ c ≤ maxLen := by
  rcases h.own.2 with ⟨rfl, h0⟩ | ⟨g, cap, cur, rfl, _, _, h1, h2, _⟩
  · exact ⟨none, 0, by rw [h0], by omega, Nat.zero_le _⟩
  · exact ⟨_, _, rfl, h1, h2⟩
theorem NInv.step {w1 wr : World} {k : Nat} {rv : Value} (h : NInv w1 wr k rv) (hk : k < 1000000) :
    ∃ v' w5, (Builtin.append_ #[35, 35] 35 #[rv, .slice (some ⟨wr.heap.size, 0, none⟩) 1 1]).run Try.prog (wr.alloc (.cells #[.int .i64 (k : Int)] 3)) = .ok v' w5 ∧ NInv w1 w5 (k + 1) v' := by
  have hI : (Try.prog.info? 3).map (fun i => (i.zero, i.size, i.bytes)) = some (some (.int .i64 0), 1, 8) := by kernel_rfl
  obtain ⟨i0, hi, hz0, hz1, hz2⟩ := info_parts hI
  have hlo := fun j hj => h.own.lt j hj
  have hb : Below wr.heap.size wr (wr.alloc (.cells #[.int .i64 (k : Int)] 3)) := (Below.refl _ _).alloc (Nat.le_refl _) _
  have ho : (wr.alloc (.cells #[.int .i64 (k : Int)] 3)).ownsRow 0 3 1 rv k ((ints k).map fun z => Value.int .i64 z) := by
    refine ⟨h.own.1, ?_⟩
    rcases h.own.2 with h0 | ⟨g, cap, cur, rfl, h1, h2, h3⟩
    · exact .inl h0
    · exact .inr ⟨g, cap, cur, rfl, h1, (hb.block g (h.own.lt g rfl).2).trans h2, h3⟩
  have hB := Blk.new wr 3 #[.int .i64 (k : Int)]
  have hcell : ∀ (j : Nat) (u : Value), [Value.int .i64 (k : Int)][j]? = some u → (wr.alloc (.cells #[.int .i64 (k : Int)] 3)).cell? ((⟨wr.heap.size, 0, none⟩ : Addr).add j) = some u := fun j u hj => by
    have e2 : (⟨wr.heap.size, 0, none⟩ : Addr).add j = ⟨wr.heap.size, 0 + j, none⟩ := by unfold Addr.add; split <;> simp_all
    rw [e2, Nat.zero_add]
    rcases j with _ | j
    · cases hj; exact hB.cell 0
    · simp at hj
  obtain ⟨v', w', hrun, h2, h3, _, h5⟩ := run_append_own_at (P := Try.prog) _ 0 35 35 3 i0 (.int .i64 0) 1 8 Try.underlying35 hi hz0 hz1 hz2 rfl (by decide) rv k _ ho ⟨wr.heap.size, 0, none⟩ 1 1 [.int .i64 (k : Int)] (by simp) hcell
    (fun u hu => by rw [List.mem_singleton.1 hu]; rfl) (by unfold maxLen; omega) (by omega) (Nat.zero_le _)
  refine ⟨v', w', hrun, ⟨?_, ?_, ?_⟩⟩
  · rw [ints_succ, List.map_append]; exact h2
  · intro j hj
    rcases h5 with e | e
    · exact h.lo j (e ▸ hj)
    · rw [e, World.size_alloc] at hj; injection hj with hj; have := h.bel.size; omega
  · exact (h.bel.trans (hb.mono h.bel.size)).grown h3 (by rw [World.size_alloc]; have := h.bel.size; omega) h.lo
theorem NInv.ints {w1 wr : World} {k : Nat} {A : Option Addr} {c : Nat} (h : NInv w1 wr k (.slice A k c)) (hk : k < 1000000) : Ints wr A (ints k) ∧ ∀ p : Addr, A = some p → w1.heap.size ≤ p.block ∧ p.block < wr.heap.size := by
  refine ⟨fun j z hj => ?_, fun p e => ?_⟩
  · have hj' := (List.getElem?_eq_some_iff.1 hj).1
    rw [ints_length] at hj'
    have hz : z = (j : Int) := by
      unfold Go.Proofs.Ytdohfkblmadejaa.ints at hj
      rw [List.getElem?_map, List.getElem?_range hj'] at hj
      simpa using hj.symm
    rcases h.own.2 with ⟨e, h0⟩ | ⟨g, cap, cur, e, h1, h2, h3⟩
    · omega
    · injection e with e1 e2 e3
      subst e1
      have c1 := h.own.cellAt j (by omega)
      rw [List.getElem?_map, hj] at c1
      exact ⟨g, 0, rfl, (h.own.lt g rfl).2, by rw [Nat.zero_add]; exact c1, by omega⟩
  · rcases h.own.2 with ⟨e', h0⟩ | ⟨g, cap, cur, e', h1, h2, h3⟩
    · injection e' with e1; rw [e1] at e; cases e
    · injection e' with e1
      subst e1
      cases e
      exact ⟨h.lo g rfl, (h.own.lt g rfl).2⟩
theorem Ints.kept {X : Nat → Prop} {w w' : World} {A : Option Addr} {zs : List Int} (h : Ints w A zs) (hk : Keep X w w') (hX : ∀ p : Addr, A = some p → X p.block) : Ints w' A zs := fun k z hz => by
  obtain ⟨b, off, rfl, h1, h2, h3⟩ := h k z hz
  exact ⟨b, off, rfl, Nat.lt_of_lt_of_le h1 hk.size, (World.cell?_of_block (a := ⟨b, off + k, none⟩) (hk.at_ b (hX _ rfl))).trans h2, h3⟩

/-- What the inner loop has found. -/
def WInv (ls : List St) (last q s : Nat) (wro : Bool) : Prop := ∀ i b, last ≤ i → i < q → Hit ls i s b → wro = true
def MInv (ls : List St) (last q s : Nat) (c : List UInt8) (mi : Bool) : Prop := ∀ i, last ≤ i → i < q → Hit ls i s c → mi = true
theorem WInv.zero (ls : List St) (last s : Nat) (wro : Bool) : WInv ls last last s wro := fun i b h1 h2 => by omega
theorem MInv.zero (ls : List St) (last s : Nat) (c : List UInt8) (mi : Bool) : MInv ls last last s c mi := fun i h1 h2 => by omega
theorem WInv.skip {ls : List St} {last q s : Nat} {wro : Bool} {st : St} (h : WInv ls last q s wro) (hj : ls[q]? = some st) (hn : ¬ (st.kind = 1 ∧ st.s = (s : Int) ∧ st.B.length ≤ 256)) : WInv ls last (q + 1) s wro := fun i b h1 h2 hh => by
  by_cases e : i = q
  · subst e
    obtain ⟨st', e1, a, b', c, _⟩ := hh
    rw [hj] at e1; cases e1
    exact absurd ⟨a, b', c⟩ hn
  · exact h i b h1 (by omega) hh
theorem MInv.skip {ls : List St} {last q s : Nat} {c : List UInt8} {mi : Bool} {st : St} (h : MInv ls last q s c mi) (hj : ls[q]? = some st) (hn : ¬ (st.kind = 1 ∧ st.s = (s : Int) ∧ st.B.length ≤ 256)) : MInv ls last (q + 1) s c mi := fun i h1 h2 hh => by
  by_cases e : i = q
  · subst e
    obtain ⟨st', e1, a, b', c, _⟩ := hh
    rw [hj] at e1; cases e1
    exact absurd ⟨a, b', c⟩ hn
  · exact h i h1 (by omega) hh
theorem MInv.hit {ls : List St} {last q s : Nat} {c : List UInt8} {st : St} (h : MInv ls last q s c false) (hj : ls[q]? = some st) : MInv ls last (q + 1) s c (decide (c = filled st.B 256)) := fun i h1 h2 hh => by
  by_cases e : i = q
  · subst e
    obtain ⟨st', e1, a, b', c', e2⟩ := hh
    rw [hj] at e1; cases e1
    exact decide_eq_true e2
  · cases h i h1 (by omega) hh
theorem MInv.true_ (ls : List St) (last q s : Nat) (c : List UInt8) : MInv ls last q s c true := fun _ _ _ _ => rfl
theorem WInv.true_ (ls : List St) (last q s : Nat) : WInv ls last q s true := fun _ _ _ _ _ => rfl

set_option maxRecDepth 20000 in
set_option maxHeartbeats 4000000 in
theorem lasts_walk (len cap kl kc : Nat) (A K : Option Addr) (torn : Int) (ls : List St) (ks : List Int) (w : World) (hlen : ls.length = len) (hA : Steps w A ls) (hv : vastB ls = false) (hkl : ks.length = kl) (hk2 : kl ≤ 256) (hK : Ints w K ks) :
    Calls Try.prog 6 #[.slice A len cap, .agg #[.slice K kl kc, .int .i64 torn]] w fun e W' => e = .returned (.bool true) ∧ Below w.heap.size w W' := by
  have hb0 : Below w.heap.size w (w.alloc (.cells #[.slice K kl kc, .int .i64 torn] 59)) := (Below.refl _ w).alloc (Nat.le_refl _) _
  have h0 := vast_any A len cap ls (w.alloc (.cells #[.slice K kl kc, .int .i64 torn] 59)) hlen (hA.below hb0)
  rw [hv] at h0
  have H0 := Lib.hid h0
  obtain ⟨hl120, hsm⟩ := vastB_no hv
  rw [hlen] at hl120
  have HSM := Lib.hid hsm
  have HA := Lib.hid hA
  have HKI := Lib.hid hK
  have HKL := Lib.hid hkl
  have HL := Lib.hid hlen
  have hn1 : decide ((256 : Int) < (kl : Int)) = false := by simp; omega
  have H1 := Lib.hid (Run.new 16 (w.alloc (.cells #[.slice K kl kc, .int .i64 torn] 59)) (w.alloc (.cells #[.slice K kl kc, .int .i64 torn] 59)) (fun _ => False) (fun _ h => h.elim) (Below.refl _ _) (by decide))
  have HCR : Hid (Blk (w.alloc (.cells #[.slice K kl kc, .int .i64 torn] 59)) w.heap.size 59 #[.slice K kl kc, .int .i64 torn]) := Lib.hid (Blk.new _ _ _)
  have HB0 := Lib.hid hb0
  clear hA hlen hv h0 hsm hK hkl hb0
  go_enter Try.func6, Try.ntmps6
  go_wp2_with fail
  refine H0.out.mono ?_
  rintro e w' ⟨rfl, rfl⟩
  go_wp2_with fail
  refine H1.out.mono ?_
  rintro e w1 ⟨g, rfl, hR1, _⟩
  have HINV : Hid (LRun (w.alloc (.cells #[.slice K kl kc, .int .i64 torn] 59)) w1 g 0 ls) := Lib.hid ⟨_, hR1, LInv.zero ls⟩
  clear hR1 H0 H1
  obtain ⟨w0, hw0⟩ : ∃ w0, w0 = w.alloc (.cells #[.slice K kl kc, .int .i64 torn] 59) := ⟨_, rfl⟩
  rw [← hw0] at HINV HCR HB0
  clear hw0
  go_wp2_with fail
  go_loopw [7] (fun i wr => ∃ j : Nat, j ≤ len ∧ i = .int .i64 (j : Int) ∧ Hid (LRun w0 wr g j ls)) (fun i _ => len - (intOf i).toNat)
  case atStart => exact ⟨0, Nat.zero_le _, rfl, HINV⟩
  case round =>
    obtain ⟨j, hj, rfl, hI⟩ := hrel
    clear HINV
    by_cases hlt : j < len
    · have hd : decide ((j : Int) < (len : Int)) = true := by simpa using hlt
      obtain ⟨D, hR, hL⟩ := hI.out
      obtain ⟨st, hsj⟩ : ∃ st, ls[j]? = some st := ⟨_, List.getElem?_eq_getElem (by rw [HL.out]; exact hlt)⟩
      have hsmall := HSM.out st (List.mem_of_getElem? hsj)
      obtain ⟨b, off, v0, v1, v2, v3, rfl, hblt, c0, c1, c2, c3, hs4⟩ := HA.out j st hsj
      have HC : Hid (C4 w b (off + j * 4) v0 v1 v2 v3) := Lib.hid ⟨c0, c1, c2, c3⟩
      have hbw := HB0.out.trans (hR.bel.mono HB0.out.size)
      obtain ⟨c0, c1, c2, c3⟩ := HC.out.below hbw
      have hs5 := hs4.below hbw
      have hsv : Hid (v0 = .int .i64 st.kind ∧ v1 = .int .i64 st.s ∧ (∃ A c, v2 = .slice A st.B.length c) ∧ ∃ A c, v3 = .slice A st.K.length c) := Lib.hid ⟨hs4.kind.1, hs4.s.1, (by obtain ⟨A, c, e, _⟩ := hs4.B; exact ⟨A, c, e⟩), (by obtain ⟨A, c, e, _⟩ := hs4.K; exact ⟨A, c, e⟩)⟩
      have hp9 : D.P.length < 1000000 ∧ D.steps < 1000000000 := by have := hL.steps; omega
      by_cases h1 : st.kind = 1
      · have H2 := Lib.hid (hR.do_write v0 v1 v2 v3 st hs5 h1 hsmall.1 hp9.1 hp9.2)
        have HL2 := Lib.hid (hL.write hsj h1)
        obtain ⟨rfl, rfl, ⟨A2, x2, rfl⟩, ⟨A3, x3, rfl⟩⟩ := hsv.out
        have d1 : (st.kind == 1) = true := by simpa using h1
        clear hs4 hs5 hR hL hI hsj hsmall hblt hbw hp9 h1 hsv
        generalize writeE D st.s st.B = we at *
        go_wp2_with fail
        refine H2.out.mono ?_
        rintro e w10 ⟨rfl, hR10, _⟩
        have HINV : Hid (LRun w0 w10 g (j + 1) ls) := Lib.hid ⟨_, hR10, HL2.out⟩
        clear hR10 H2 HL2
        go_wp2_with fail
        go_roundw
        case rel => exact ⟨j + 1, by omega, by go_num, HINV⟩
        case measure => simp [intOf]; omega
      · have d1 : (st.kind == 1) = false := by simpa using h1
        by_cases h2 : st.kind = 2
        · have H2 := Lib.hid (hR.do_barrier v0 v1 v2 v3 st hs5 h2 hp9.1 hp9.2)
          have HL2 := Lib.hid hL.bar
          obtain ⟨rfl, rfl, ⟨A2, x2, rfl⟩, ⟨A3, x3, rfl⟩⟩ := hsv.out
          have d2 : (st.kind == 2) = true := by simpa using h2
          clear hs4 hs5 hR hL hI hsj hsmall hblt hbw hp9 h1 hsv h2
          generalize barE D = we at *
          go_wp2_with fail
          refine H2.out.mono ?_
          rintro e w10 ⟨rfl, hR10, _⟩
          have HINV : Hid (LRun w0 w10 g (j + 1) ls) := Lib.hid ⟨_, hR10, HL2.out⟩
          clear hR10 H2 HL2
          go_wp2_with fail
          go_roundw
          case rel => exact ⟨j + 1, by omega, by go_num, HINV⟩
          case measure => simp [intOf]; omega
        · have d2 : (st.kind == 2) = false := by simpa using h2
          have HINV : Hid (LRun w0 wr g (j + 1) ls) := Lib.hid ⟨_, hR, hL.same hsj h2⟩
          obtain ⟨rfl, rfl, ⟨A2, x2, rfl⟩, ⟨A3, x3, rfl⟩⟩ := hsv.out
          clear hs4 hs5 hR hL hI hsj hsmall hblt hbw hp9 h1 hsv h2
          go_wp2_with fail
          go_roundw
          case rel => exact ⟨j + 1, by omega, by go_num, HINV⟩
          case measure => simp [intOf]; omega
    · obtain rfl : len = j := by omega
      have hd : decide ((len : Int) < (len : Int)) = false := by simp
      obtain ⟨D, hR, hL⟩ := hI.out
      rw [← HL.out] at hL
      have HL5 := Lib.hid hL
      have H3 := Lib.hid hR.image
      have HR := Lib.hid hR
      clear hR hL hI
      go_wp2_with fail
      refine H3.out.mono ?_
      rintro e w2 ⟨rfl, hS2, hb2⟩
      have HR2 := Lib.hid (HR.out.below hb2)
      have HWAS := Lib.hid hS2
      have HLR : Hid (LRd w2 w2 D 0 (.slice none 0 0)) := Lib.hid ⟨SecsO.nil _ _, (fun j hj => by cases hj), Below.refl _ _⟩
      have HB2 := Lib.hid hb2
      clear hS2 hb2 H3
      have hsz : D.S.length = 16 := HL5.out.good.len
      rw [hsz]
      obtain ⟨wl, rfl⟩ : ∃ wl, wl = wr := ⟨wr, rfl⟩
      go_wp2_with fail
      go_loopw [9, 10, 11, 12] (fun rd i b f wr => ∃ s : Nat, s ≤ 16 ∧ i = .int .i64 (s : Int) ∧ Hid (LRd w2 wr D s rd)) (fun _ i _ _ _ => 16 - (intOf i).toNat)
      case atStart => exact ⟨0, Nat.zero_le _, rfl, HLR⟩
      case round =>
        obtain ⟨s, hs, rfl, hI⟩ := hrel
        clear HLR
        by_cases hlt : s < 16
        · have hd : decide ((s : Int) < 16) = true := by simp; omega
          obtain ⟨hrl, hre⟩ := HL5.out.good.read s hlt
          have h4 := (HR2.out.below hI.out.bel).read_yes (s : Int) hre
          rw [Int.toNat_natCast] at h4
          have H4 := Lib.hid h4
          have HRL := Lib.hid hrl
          clear h4 hrl hre
          go_wp2_with fail
          refine H4.out.mono ?_
          rintro e w3 ⟨rfl, hB3, _, _, hb3⟩
          obtain ⟨v', w5, hrun, hL5⟩ := hI.out.step (by omega) hB3 HRL.out hb3
          have HLR := Lib.hid hL5
          have HRUN := Lib.hid hrun
          clear hB3 hb3 hrun hL5 hI H4
          go_wp2_with (at_builtin; refine wpList_app rfl _ _ 42 rfl _ _ _ _ rfl rfl HRUN.out ?_; clear HRUN)
          go_roundw
          case rel => exact ⟨s + 1, by omega, by go_num, HLR⟩
          case measure => simp [intOf]; omega
        · obtain rfl : s = 16 := by omega
          obtain ⟨w5, rfl⟩ : ∃ w5, w5 = wr := ⟨wr, rfl⟩
          have hd : decide (((16 : Nat) : Int) < 16) = false := by simp
          go_wp2_with fail
          go_loopw [13, 14] (fun last i wr => wr = w5 ∧ ∃ j : Nat, j ≤ len ∧ i = .int .i64 (j : Int) ∧ last = .int .i64 (lastB ls j : Int)) (fun _ i _ => len - (intOf i).toNat)
          case atStart => exact ⟨rfl, 0, Nat.zero_le _, rfl, rfl⟩
          case round =>
            obtain ⟨rfl, j, hj, rfl, rfl⟩ := hrel
            by_cases hlt : j < len
            · have hd : decide ((j : Int) < (len : Int)) = true := by simpa using hlt
              obtain ⟨st, hsj⟩ : ∃ st, ls[j]? = some st := ⟨_, List.getElem?_eq_getElem (by rw [HL.out]; exact hlt)⟩
              obtain ⟨b, off, v0, v1, v2, v3, rfl, hblt, c0, c1, c2, c3, hs4⟩ := HA.out j st hsj
              have HC : Hid (C4 w b (off + j * 4) v0 v1 v2 v3) := Lib.hid ⟨c0, c1, c2, c3⟩
              have hbw := (HB0.out.trans ((HR2.out.below hI.out.bel).bel.mono HB0.out.size))
              obtain ⟨c0, c1, c2, c3⟩ := HC.out.below hbw
              have hl1 := lastB_some hsj
              obtain rfl := hs4.kind.1
              clear hs4 hblt hbw hsj c1 c2 c3
              by_cases h2 : st.kind = 2
              · have d2 : (st.kind == 2) = true := by simpa using h2
                rw [if_pos h2] at hl1
                have HL1 := Lib.hid hl1
                clear hl1 h2
                go_wp2_with fail
                go_roundw
                case rel => exact ⟨trivial, j + 1, by omega, by go_num, by rw [HL1.out]⟩
                case measure => simp [intOf]; omega
              · have d2 : (st.kind == 2) = false := by simpa using h2
                rw [if_neg h2] at hl1
                have HL1 := Lib.hid hl1
                clear hl1 h2
                go_wp2_with fail
                go_roundw
                case rel => exact ⟨trivial, j + 1, by omega, by go_num, by rw [HL1.out]⟩
                case measure => simp [intOf]; omega
            · obtain rfl : len = j := by omega
              have hd : decide ((len : Int) < (len : Int)) = false := by simp
              obtain ⟨last, hla⟩ : ∃ last, last = lastB ls len := ⟨_, rfl⟩
              rw [← hla]
              have HLA := Lib.hid hla
              have hR5 := HR2.out.below hI.out.bel
              have H5 := Lib.hid (hR5.copy (by have := HL5.out.steps; rw [HL.out] at this; omega))
              have HR5 := Lib.hid hR5
              clear hla hR5
              go_wp2_with fail
              refine H5.out.mono ?_
              rintro e w6 ⟨c, rfl, hT6, hb6⟩
              have hle : w0.heap.size ≤ wl.heap.size ∧ wl.heap.size < w2.heap.size ∧ w2.heap.size ≤ wr.heap.size ∧ wr.heap.size ≤ w6.heap.size ∧ w6.heap.size ≤ w6.heap.size := by
                have h1 := HR.out.size
                have h2 := HWAS.out.lt
                have h3 := hI.out.bel.size
                have h4 := hb6.size
                omega
              have hbl : Below wl.heap.size wl w6 := HB2.out.trans ((hI.out.bel.trans (hb6.mono hle.2.2.1)).mono (by omega))
              have HR6 : Hid (Run w0 w6 (fun k => wl.heap.size ≤ k ∧ k < w6.heap.size) g D) := Lib.hid (HR.out.add hbl _ fun k hk => .inr hk)
              have hb26 : Below w2.heap.size w2 w6 := hI.out.bel.trans (hb6.mono hle.2.2.1)
              have HBU : Hid (LBun w0 wl w2 wr w6 w6 u9 c D) := Lib.hid ⟨HWAS.out.same hb26.size (fun j hj _ => hb26.block j hj.2) (hb26.block _ HWAS.out.lt), (hI.out.own.same hb6.size (fun j hj hl => hb6.block j hl) (fun j hj => hb6.block j (hI.out.own.lt j hj))).mono (fun j hj => ⟨by omega, hj.2.1⟩),
                fun j hj => ⟨by have := hI.out.lo j hj; omega, hI.out.own.lt j hj⟩, hT6, hle⟩
              obtain ⟨sA, sc, hsv, hsc, hsm2, _⟩ := hI.out.own.img
              rw [readAll_length] at hsv
              have HSV := Lib.hid (And.intro hsc hsm2)
              clear hT6 hb6 hle hbl hb26 H5 HR5 HR2 HWAS HB2 HR hsc hsm2
              subst hsv
              obtain ⟨w5, rfl⟩ : ∃ w5, w5 = wr := ⟨wr, rfl⟩
              have H6 := Lib.hid HR6.out.off
              go_wp2_with fail
              refine H6.out.mono ?_
              rintro e w7 ⟨rfl, hR7, hk7⟩
              have hbu7 := HBU.out.keep hk7
              have h7 := hR7.read_no 0 (by rw [HL5.out.good.off_read]; decide)
              rw [HL5.out.good.off_read] at h7
              have H7 := Lib.hid h7
              have hst := HL5.out.steps
              rw [HL.out] at hst
              have hcr : ∀ W : World, Below w0.heap.size w0 W → W.cell? ⟨w.heap.size, 0, none⟩ = some (.slice K kl kc) ∧ W.cell? ⟨w.heap.size, 1, none⟩ = some (.int .i64 torn) := fun W hW =>
                ⟨(hW.cell (p := ⟨w.heap.size, 0, none⟩) HCR.out.lt).trans (HCR.out.cell 0), (hW.cell (p := ⟨w.heap.size, 1, none⟩) HCR.out.lt).trans (HCR.out.cell 1)⟩
              obtain ⟨c70, c71⟩ := hcr w7 hR7.bel
              have h8 := hR7.on kl kc K ks torn (show (offD D).P.length < 1000000 from by show D.P.length < 1000000; omega) (HKI.out.below (HB0.out.trans (hR7.bel.mono HB0.out.size))) HKL.out (by omega)
              rw [(HL5.out.good.lost_on ks ks torn torn).2.2] at h8
              change Calls _ _ _ _ (fun e w' => _ ∧ Run w0 w' _ g (lostD D ks torn) ∧ _) at h8
              have H8 := Lib.hid h8
              have HBU7 := Lib.hid hbu7
              have HCRA := Lib.hid hcr
              clear hR7 hk7 hbu7 h7 hcr h8 hst H6 HR6 HBU
              go_wp2_with fail
              refine H7.out.mono ?_
              rintro e w' ⟨rfl, rfl⟩
              go_wp2_with fail
              refine H8.out.mono ?_
              rintro e w8 ⟨rfl, hR8, hk8⟩
              obtain ⟨c80, c81⟩ := HCRA.out w8 hR8.bel
              have h9 := hR8.pending
              have hP0 : (lostD D ks torn).P.length = 0 := by rw [HL5.out.good.lost]; rfl
              rw [hP0] at h9
              have h10 := hR8.on kl kc K ks torn (by rw [hP0]; decide) (HKI.out.below (HB0.out.trans (hR8.bel.mono HB0.out.size))) HKL.out (by omega)
              rw [(HL5.out.good.lost_on ks ks torn torn).2.1, (HL5.out.good.lost_on ks ks torn torn).1] at h10
              have HBU8 := Lib.hid (HBU7.out.keep hk8)
              have H9 := Lib.hid h9
              have H10 := Lib.hid h10
              clear hR8 hk8 h9 hP0 h10 H7 H8 HBU7 c70 c71
              go_wp2_with fail
              refine H9.out.mono ?_
              rintro e w' ⟨rfl, rfl⟩
              go_wp2_with fail
              refine H10.out.mono ?_
              rintro e w9 ⟨rfl, hR9, hk9⟩
              have HBU9 := Lib.hid (HBU8.out.keep hk9)
              have HR9 := Lib.hid hR9
              clear hR9 hk9 H9 H10 HBU8 c80 c81
              go_wp2_with fail
              go_loopw [18, 19, 20, 21, 22, 23, 24, 25] (fun i b f mi wro q x y wr => ∃ s : Nat, s ≤ 16 ∧ i = .int .i64 (s : Int) ∧ Hid (Below w9.heap.size w9 wr)) (fun i _ _ _ _ _ _ _ _ => 16 - (intOf i).toNat)
              case atStart => exact ⟨0, Nat.zero_le _, rfl, Lib.hid (Below.refl _ _)⟩
              case round =>
                obtain ⟨s, hs, rfl, hI9⟩ := hrel
                by_cases hlt : s < 16
                · have hd : decide ((s : Int) < 16) = true := by simp; omega
                  obtain ⟨c', hc'⟩ := HL5.out.lostAt ks torn s hlt
                  have hR10 := HR9.out.below hI9.out
                  have h3 := hc'.three
                  rw [HL.out, ← HLA.out] at h3
                  have hfull : (D.S.getD s []).length = 256 := by
                    have hsl : s < D.S.length := by rw [hsz]; exact hlt
                    simp only [List.getD, List.getElem?_eq_getElem hsl, Option.getD_some]
                    exact HL5.out.good.full _ (List.getElem_mem hsl)
                  by_cases hnil : c' = []
                  · have h11 := hR10.read_no (s : Int) (by rw [hc'.err, if_pos hnil]; decide)
                    rw [hc'.err, if_pos hnil] at h11
                    have H11 := Lib.hid h11
                    have HT : Hid (0 ≤ torn ∧ ∃ i b, last ≤ i ∧ i < len ∧ Hit ls i s b) := Lib.hid (by
                      rcases h3 with e | ⟨i, _, _, st, _, _, _, hle, e⟩ | ⟨_, h1, h2⟩
                      · rw [← e, hnil] at hfull; cases hfull
                      · exact absurd (e.symm.trans hnil) (filled_ne hle)
                      · exact ⟨h1, h2⟩)
                    clear h11 h3 hfull hc' hnil hR10
                    go_wp2_with fail
                    refine H11.out.mono ?_
                    rintro e w' ⟨rfl, rfl⟩
                    clear H11
                    go_wp2_with fail

                    go_loopw [21, 22, 23, 24, 25] (fun mi wro i x y wx => mi = .bool false ∧ ∃ (q : Nat) (wb : Bool), last ≤ q ∧ q ≤ len ∧ i = .int .i64 (q : Int) ∧ wro = .bool wb ∧ Hid (Below w9.heap.size w9 wx) ∧ Hid (WInv ls last q s wb)) (fun _ _ i _ _ _ => len - (intOf i).toNat)
                    case atStart => exact ⟨rfl, last, false, Nat.le_refl _, by rw [HLA.out]; exact lastB_le ls len, rfl, rfl, hI9, Lib.hid (WInv.zero _ _ _ _)⟩
                    case round =>
                      obtain ⟨rfl, q, wb, hq1, hq2, rfl, rfl, hJ, hW⟩ := hrel
                      by_cases hlq : q < len
                      · have hdq : decide ((q : Int) < (len : Int)) = true := by simpa using hlq
                        obtain ⟨st, hsj⟩ : ∃ st, ls[q]? = some st := ⟨_, List.getElem?_eq_getElem (by rw [HL.out]; exact hlq)⟩
                        have hsmall := (HSM.out st (List.mem_of_getElem? hsj)).1
                        obtain ⟨ba, off, v0, v1, v2, v3, rfl, hblt, c0, c1, c2, c3, hs4⟩ := HA.out q st hsj
                        have HC : Hid (C4 w ba (off + q * 4) v0 v1 v2 v3) := Lib.hid ⟨c0, c1, c2, c3⟩
                        have hbw := HB0.out.trans ((HR9.out.below hJ.out).bel.mono HB0.out.size)
                        obtain ⟨c0, c1, c2, c3⟩ := HC.out.below hbw
                        obtain ⟨rfl, _, _⟩ := hs4.kind
                        obtain ⟨rfl, _, _⟩ := hs4.s
                        obtain ⟨A2, x2, rfl, _, _, hby⟩ := hs4.B
                        have hby2 := hby.below hbw
                        have hbyw : Hid (∀ W, Below w.heap.size w W → Bytes W A2 st.B) := Lib.hid fun W hW => hby.below hW
                        obtain ⟨x, hx⟩ : ∃ x, st.B.length = x := ⟨_, rfl⟩
                        rw [hx] at c2 hsmall
                        have HX := Lib.hid hx
                        have HSJ := Lib.hid hsj
                        clear hs4 hblt hsj hx hby c3
                        by_cases hf : x ≤ 256
                        · have H12 := Lib.hid (reffill_ok A2 x x2 256 st.B wr HX.out hf (by decide) hby2)
                          clear hby2
                          go_wp2_with fail
                          refine H12.out.mono ?_
                          rintro e w12 ⟨rfl, hB12, hb12⟩
                          obtain ⟨d0, d1, d2, _⟩ := HC.out.below (hbw.trans (hb12.mono hbw.size))
                          have HJ2 := Lib.hid (hJ.out.trans (hb12.mono hJ.out.size))
                          have HB12 := Lib.hid hB12
                          clear hB12 hb12 H12 c0 c1 c2 hbw hJ
                          by_cases h1 : st.kind = 1
                          · have d21 : (st.kind == 1) = true := by simpa using h1
                            by_cases h2 : st.s = (s : Int)
                            · have d22 : (st.s == (s : Int)) = true := by simpa using h2
                              have hW2 := Lib.hid (WInv.true_ ls last (q + 1) s)
                              clear h1 h2
                              go_wp2_with fail
                              go_roundw
                              case rel => exact ⟨rfl, q + 1, true, by omega, by omega, by go_num, rfl, HJ2, hW2⟩
                              case measure => simp [intOf]; omega
                            · have d22 : (st.s == (s : Int)) = false := by simpa using h2
                              have hno : ¬ (st.kind = 1 ∧ st.s = (s : Int) ∧ st.B.length ≤ 256) := fun e => h2 e.2.1
                              have hW2 := Lib.hid (hW.out.skip HSJ.out hno)
                              clear hno h1 h2
                              go_wp2_with fail
                              go_roundw
                              case rel => exact ⟨rfl, q + 1, wb, by omega, by omega, by go_num, rfl, HJ2, hW2⟩
                              case measure => simp [intOf]; omega
                          · have d21 : (st.kind == 1) = false := by simpa using h1
                            have hno : ¬ (st.kind = 1 ∧ st.s = (s : Int) ∧ st.B.length ≤ 256) := fun e => h1 e.1
                            have hW2 := Lib.hid (hW.out.skip HSJ.out hno)
                            clear hno h1
                            go_wp2_with fail
                            go_roundw
                            case rel => exact ⟨rfl, q + 1, wb, by omega, by omega, by go_num, rfl, HJ2, hW2⟩
                            case measure => simp [intOf]; omega
                        · have H12 := Lib.hid (reffill_no A2 x x2 256 wr (.inl (by omega)))
                          clear hby2
                          go_wp2_with fail
                          refine H12.out.mono ?_
                          rintro e w12 ⟨rfl, rfl⟩
                          clear H12 hbw
                          by_cases h1 : st.kind = 1
                          · have d21 : (st.kind == 1) = true := by simpa using h1
                            by_cases h2 : st.s = (s : Int)
                            · have d22 : (st.s == (s : Int)) = true := by simpa using h2
                              have hno : ¬ (st.kind = 1 ∧ st.s = (s : Int) ∧ st.B.length ≤ 256) := fun e => hf (by rw [← HX.out]; exact e.2.2)
                              have hW2 := Lib.hid (hW.out.skip HSJ.out hno)
                              clear hno h1 h2
                              go_wp2_with fail
                              go_roundw
                              case rel => exact ⟨rfl, q + 1, wb, by omega, by omega, by go_num, rfl, hJ, hW2⟩
                              case measure => simp [intOf]; omega
                            · have d22 : (st.s == (s : Int)) = false := by simpa using h2
                              have hno : ¬ (st.kind = 1 ∧ st.s = (s : Int) ∧ st.B.length ≤ 256) := fun e => h2 e.2.1
                              have hW2 := Lib.hid (hW.out.skip HSJ.out hno)
                              clear hno h1 h2
                              go_wp2_with fail
                              go_roundw
                              case rel => exact ⟨rfl, q + 1, wb, by omega, by omega, by go_num, rfl, hJ, hW2⟩
                              case measure => simp [intOf]; omega
                          · have d21 : (st.kind == 1) = false := by simpa using h1
                            have hno : ¬ (st.kind = 1 ∧ st.s = (s : Int) ∧ st.B.length ≤ 256) := fun e => h1 e.1
                            have hW2 := Lib.hid (hW.out.skip HSJ.out hno)
                            clear hno h1
                            go_wp2_with fail
                            go_roundw
                            case rel => exact ⟨rfl, q + 1, wb, by omega, by omega, by go_num, rfl, hJ, hW2⟩
                            case measure => simp [intOf]; omega
                      · obtain rfl : len = q := by omega
                        have hdq : decide ((len : Int) < (len : Int)) = false := by simp
                        obtain ⟨ht, i0, b0, hi1, hi2, hh⟩ := HT.out
                        obtain rfl : wb = true := hW.out i0 b0 hi1 hi2 hh
                        have ht2 : decide (torn < 0) = false := by simp; omega
                        obtain ⟨_, d1⟩ := HCRA.out wr (HR9.out.below hJ.out).bel
                        have HJ2 := hJ
                        clear hi1 hi2 hh hJ hW
                        go_wp2_with fail
                        go_roundw
                        case rel => exact ⟨s + 1, by omega, by go_num, HJ2⟩
                        case measure => simp [intOf]; omega
                  · obtain ⟨wb9, rfl⟩ : ∃ wb9, wb9 = wr := ⟨wr, rfl⟩
                    have h11 := hR10.read_yes (s : Int) (by rw [hc'.err, if_neg hnil])
                    rw [Int.toNat_natCast, hc'.read] at h11
                    have H11 := Lib.hid h11
                    have HC6 : Hid (c'.length = 256) := Lib.hid (hc'.len.resolve_left hnil)
                    have hws : D.S[s]? = some (D.S.getD s []) := by
                      have hsl : s < D.S.length := by rw [hsz]; exact hlt
                      simp only [List.getD, List.getElem?_eq_getElem hsl, Option.getD_some]
                    obtain ⟨ws, hwd⟩ : ∃ ws, D.S.getD s [] = ws := ⟨_, rfl⟩
                    rw [hwd] at hws hfull h3
                    have HT : Hid (c' = ws ∨ ∃ i, last ≤ i ∧ i < len ∧ Hit ls i s c') := Lib.hid (by
                      rcases h3 with e | e | ⟨e, _⟩
                      · exact .inl e
                      · exact .inr e
                      · exact absurd e hnil)
                    obtain ⟨vw, hvw, A3, c3, rfl, hle3, hm3, hby3, _⟩ := HBU9.out.was.at_ hws
                    rw [hfull] at hvw hle3
                    have HVW := Lib.hid (And.intro hvw (And.intro hle3 (And.intro hm3 (And.intro hby3 (And.intro hfull HBU9.out.was.lt)))))
                    clear h11 h3 hfull hc' hnil hR10 hws hwd hvw hle3 hm3 hby3
                    go_wp2_with fail
                    refine H11.out.mono ?_
                    rintro e w10 ⟨rfl, hB10, _, _, hb10⟩
                    have hj10 := hI9.out.trans (hb10.mono hI9.out.size)
                    obtain ⟨q1, q2, q3, q4, q5, q6⟩ := HVW.out
                    have hv10 : w10.cell? ⟨wl.heap.size, s, none⟩ = some (.slice A3 256 c3) := (hj10.cell (p := ⟨wl.heap.size, s, none⟩) q6).trans q1
                    have h12 := eq_any (some ⟨wb9.heap.size, 0, none⟩) A3 256 256 256 c3 c' ws w10 HC6.out q5 (Bytes.row hB10) (q4.below hj10) (by decide) (by unfold maxLen at q3; omega)
                    have H12 := Lib.hid h12
                    have HB10 := Lib.hid hB10
                    have HJ10 := Lib.hid hj10
                    clear q1 q2 q3 q4 q5 q6 hB10 hb10 hj10 h12 H11
                    go_wp2_with fail
                    refine H12.out.mono ?_
                    rintro e w11 ⟨rfl, hb11⟩
                    have HBK := Lib.hid (HB10.out.below hb11 HB10.out.lt)
                    have HI11 := Lib.hid (HJ10.out.trans (hb11.mono HJ10.out.size))
                    have HM0 : Hid (MInv ls last last s c' (decide (c' = ws)) ∧ (c' = ws → decide (c' = ws) = true)) := Lib.hid ⟨MInv.zero _ _ _ _ _, fun e => decide_eq_true e⟩
                    clear hb11 H12 HB10 HJ10 hv10
                    generalize hmb0 : decide (c' = ws) = mb0 at *
                    clear hmb0
                    go_wp2_with fail

                    go_loopw [21, 22, 23, 24, 25] (fun mi wro i x y wx =>  ∃ (q : Nat) (wb : Bool) (mb : Bool), last ≤ q ∧ q ≤ len ∧ i = .int .i64 (q : Int) ∧ wro = .bool wb ∧ mi = .bool mb ∧ Hid (MInv ls last q s c' mb ∧ (c' = ws → mb = true)) ∧ Hid (Below w11.heap.size w11 wx) ∧ Hid (Below w9.heap.size w9 wx) ∧ Hid (WInv ls last q s wb)) (fun _ _ i _ _ _ => len - (intOf i).toNat)
                    case atStart => exact ⟨last, false, _, Nat.le_refl _, by rw [HLA.out]; exact lastB_le ls len, rfl, rfl, rfl, HM0, Lib.hid (Below.refl _ _), HI11, Lib.hid (WInv.zero _ _ _ _)⟩
                    case round =>
                      obtain ⟨q, wb, mb, hq1, hq2, rfl, rfl, rfl, hM, hN, hJ, hW⟩ := hrel
                      by_cases hlq : q < len
                      · have hdq : decide ((q : Int) < (len : Int)) = true := by simpa using hlq
                        obtain ⟨st, hsj⟩ : ∃ st, ls[q]? = some st := ⟨_, List.getElem?_eq_getElem (by rw [HL.out]; exact hlq)⟩
                        have hsmall := (HSM.out st (List.mem_of_getElem? hsj)).1
                        obtain ⟨ba, off, v0, v1, v2, v3, rfl, hblt, c0, c1, c2, c3, hs4⟩ := HA.out q st hsj
                        have HC : Hid (C4 w ba (off + q * 4) v0 v1 v2 v3) := Lib.hid ⟨c0, c1, c2, c3⟩
                        have hbw := HB0.out.trans ((HR9.out.below hJ.out).bel.mono HB0.out.size)
                        obtain ⟨c0, c1, c2, c3⟩ := HC.out.below hbw
                        obtain ⟨rfl, _, _⟩ := hs4.kind
                        obtain ⟨rfl, _, _⟩ := hs4.s
                        obtain ⟨A2, x2, rfl, _, _, hby⟩ := hs4.B
                        have hby2 := hby.below hbw
                        have hbyw : Hid (∀ W, Below w.heap.size w W → Bytes W A2 st.B) := Lib.hid fun W hW => hby.below hW
                        obtain ⟨x, hx⟩ : ∃ x, st.B.length = x := ⟨_, rfl⟩
                        rw [hx] at c2 hsmall
                        have HX := Lib.hid hx
                        have HSJ := Lib.hid hsj
                        clear hs4 hblt hsj hx hby c3
                        by_cases hf : x ≤ 256
                        · have H12 := Lib.hid (reffill_ok A2 x x2 256 st.B wr HX.out hf (by decide) hby2)
                          clear hby2
                          go_wp2_with fail
                          refine H12.out.mono ?_
                          rintro e w12 ⟨rfl, hB12, hb12⟩
                          obtain ⟨d0, d1, d2, _⟩ := HC.out.below (hbw.trans (hb12.mono hbw.size))
                          have HJ2 := Lib.hid (hJ.out.trans (hb12.mono hJ.out.size))
                          have HB12 := Lib.hid hB12
                          have HN2 := Lib.hid (hN.out.trans (hb12.mono hN.out.size))
                          clear hB12 hb12 H12 c0 c1 c2 hbw hJ
                          by_cases h1 : st.kind = 1
                          · have d21 : (st.kind == 1) = true := by simpa using h1
                            by_cases h2 : st.s = (s : Int)
                            · have d22 : (st.s == (s : Int)) = true := by simpa using h2
                              have hW2 := Lib.hid (WInv.true_ ls last (q + 1) s)
                              clear h1 h2
                              cases mb
                              · have hM2 := Lib.hid (And.intro (hM.out.1.hit HSJ.out) (show c' = ws → decide (c' = filled st.B 256) = true from fun e => by cases hM.out.2 e))
                                have h13 := eq_any (some ⟨wb9.heap.size, 0, none⟩) (some ⟨wr.heap.size, 0, none⟩) 256 256 256 256 c' (filled st.B 256) w12 HC6.out (filled_length st.B 256 (by rw [HX.out]; exact hf)) (Bytes.row (HBK.out.below HN2.out HBK.out.lt)) (Bytes.row HB12.out) (by decide) (by decide)
                                have H13 := Lib.hid h13
                                clear h13
                                go_wp2_with fail
                                refine H13.out.mono ?_
                                rintro e w13 ⟨rfl, hb13⟩
                                have HJ3 := Lib.hid (HJ2.out.trans (hb13.mono HJ2.out.size))
                                have HN3 := Lib.hid (HN2.out.trans (hb13.mono HN2.out.size))
                                clear hb13 H13
                                go_wp2_with fail
                                go_roundw
                                case rel => exact ⟨q + 1, true, _, by omega, by omega, by go_num, rfl, rfl, hM2, HN3, HJ3, hW2⟩
                                case measure => simp [intOf]; omega
                              · skip
                                go_wp2_with fail
                                go_roundw
                                case rel => exact ⟨q + 1, true, true, by omega, by omega, by go_num, rfl, rfl, Lib.hid ⟨MInv.true_ ls last (q + 1) s c', fun _ => rfl⟩, HN2, HJ2, hW2⟩
                                case measure => simp [intOf]; omega
                            · have d22 : (st.s == (s : Int)) = false := by simpa using h2
                              have hno : ¬ (st.kind = 1 ∧ st.s = (s : Int) ∧ st.B.length ≤ 256) := fun e => h2 e.2.1
                              have hM2 := Lib.hid (And.intro (hM.out.1.skip HSJ.out hno) hM.out.2)
                              have hW2 := Lib.hid (hW.out.skip HSJ.out hno)
                              clear hno h1 h2
                              go_wp2_with fail
                              go_roundw
                              case rel => exact ⟨q + 1, wb, mb, by omega, by omega, by go_num, rfl, rfl, hM2, HN2, HJ2, hW2⟩
                              case measure => simp [intOf]; omega
                          · have d21 : (st.kind == 1) = false := by simpa using h1
                            have hno : ¬ (st.kind = 1 ∧ st.s = (s : Int) ∧ st.B.length ≤ 256) := fun e => h1 e.1
                            have hM2 := Lib.hid (And.intro (hM.out.1.skip HSJ.out hno) hM.out.2)
                            have hW2 := Lib.hid (hW.out.skip HSJ.out hno)
                            clear hno h1
                            go_wp2_with fail
                            go_roundw
                            case rel => exact ⟨q + 1, wb, mb, by omega, by omega, by go_num, rfl, rfl, hM2, HN2, HJ2, hW2⟩
                            case measure => simp [intOf]; omega
                        · have H12 := Lib.hid (reffill_no A2 x x2 256 wr (.inl (by omega)))
                          clear hby2
                          go_wp2_with fail
                          refine H12.out.mono ?_
                          rintro e w12 ⟨rfl, rfl⟩
                          clear H12 hbw
                          by_cases h1 : st.kind = 1
                          · have d21 : (st.kind == 1) = true := by simpa using h1
                            by_cases h2 : st.s = (s : Int)
                            · have d22 : (st.s == (s : Int)) = true := by simpa using h2
                              have hno : ¬ (st.kind = 1 ∧ st.s = (s : Int) ∧ st.B.length ≤ 256) := fun e => hf (by rw [← HX.out]; exact e.2.2)
                              have hM2 := Lib.hid (And.intro (hM.out.1.skip HSJ.out hno) hM.out.2)
                              have hW2 := Lib.hid (hW.out.skip HSJ.out hno)
                              clear hno h1 h2
                              go_wp2_with fail
                              go_roundw
                              case rel => exact ⟨q + 1, wb, mb, by omega, by omega, by go_num, rfl, rfl, hM2, hN, hJ, hW2⟩
                              case measure => simp [intOf]; omega
                            · have d22 : (st.s == (s : Int)) = false := by simpa using h2
                              have hno : ¬ (st.kind = 1 ∧ st.s = (s : Int) ∧ st.B.length ≤ 256) := fun e => h2 e.2.1
                              have hM2 := Lib.hid (And.intro (hM.out.1.skip HSJ.out hno) hM.out.2)
                              have hW2 := Lib.hid (hW.out.skip HSJ.out hno)
                              clear hno h1 h2
                              go_wp2_with fail
                              go_roundw
                              case rel => exact ⟨q + 1, wb, mb, by omega, by omega, by go_num, rfl, rfl, hM2, hN, hJ, hW2⟩
                              case measure => simp [intOf]; omega
                          · have d21 : (st.kind == 1) = false := by simpa using h1
                            have hno : ¬ (st.kind = 1 ∧ st.s = (s : Int) ∧ st.B.length ≤ 256) := fun e => h1 e.1
                            have hM2 := Lib.hid (And.intro (hM.out.1.skip HSJ.out hno) hM.out.2)
                            have hW2 := Lib.hid (hW.out.skip HSJ.out hno)
                            clear hno h1
                            go_wp2_with fail
                            go_roundw
                            case rel => exact ⟨q + 1, wb, mb, by omega, by omega, by go_num, rfl, rfl, hM2, hN, hJ, hW2⟩
                            case measure => simp [intOf]; omega
                      · obtain rfl : len = q := by omega
                        have hdq : decide ((len : Int) < (len : Int)) = false := by simp
                        obtain rfl : mb = true := by
                          rcases HT.out with e | ⟨i0, hi1, hi2, hh⟩
                          · exact hM.out.2 e
                          · exact hM.out.1 i0 hi1 hi2 hh
                        have HJ2 := hJ
                        clear hJ hW hM hN
                        go_wp2_with fail
                        go_roundw
                        case rel => exact ⟨s + 1, by omega, by go_num, HJ2⟩
                        case measure => simp [intOf]; omega
                · have hd : decide ((s : Int) < 16) = false := by simp; omega
                  obtain ⟨m, hm⟩ : ∃ m, D.P.length = m := ⟨_, rfl⟩
                  have hm9 : m < 1000000 := by have := HL5.out.steps; rw [HL.out] at this; omega
                  have HM := Lib.hid hm
                  have hle9 := HBU9.out.le
                  have HBUA := Lib.hid (HBU9.out.keep (Keep.of_below hI9.out (fun k hk => by omega)))
                  have hbA := HR9.out.bel.trans (hI9.out.mono HR9.out.size)
                  have HBA := Lib.hid hbA
                  clear hm hle9 hbA
                  obtain ⟨wa, rfl⟩ : ∃ wa, wa = wr := ⟨wr, rfl⟩
                  have HN0 := Lib.hid (NInv.nil wa)
                  go_wp2_with fail
                  go_loopw [26, 27] (fun all i wr => ∃ k : Nat, k ≤ m ∧ i = .int .i64 (k : Int) ∧ Hid (NInv wa wr k all)) (fun _ i _ => m - (intOf i).toNat)
                  case atStart => exact ⟨0, Nat.zero_le _, rfl, HN0⟩
                  case round =>
                    obtain ⟨k, hk, rfl, hN⟩ := hrel
                    clear HN0
                    have hbu := HBUA.out.keep (Keep.of_below hN.out.bel (fun k hk => by have := HBUA.out.le; omega))
                    have h14 := Disk.pending_ _ _ _ _ hbu.twin
                    rw [HM.out] at h14
                    have H14 := Lib.hid h14
                    have HBUB := Lib.hid hbu
                    clear hbu h14
                    by_cases hlk : k < m
                    · have hdk : decide ((k : Int) < (m : Int)) = true := by simpa using hlk
                      obtain ⟨v', w15, hrun, hN5⟩ := hN.out.step (by omega)
                      have HRUN := Lib.hid hrun
                      have HN5 := Lib.hid hN5
                      clear hrun hN5 hN
                      go_wp2_with fail
                      refine H14.out.mono ?_
                      rintro e w' ⟨rfl, rfl⟩
                      clear H14
                      go_wp2_with (at_builtin; refine wpList_app rfl _ _ 35 rfl _ _ _ _ rfl rfl HRUN.out ?_; clear HRUN)
                      go_roundw
                      case rel => exact ⟨k + 1, by omega, by go_num, HN5⟩
                      case measure => simp [intOf]; omega
                    · obtain rfl : m = k := by omega
                      have hdk : decide ((m : Int) < (m : Int)) = false := by simp
                      obtain ⟨Aa, ca, hsa, _, _⟩ := hN.out.shape
                      subst hsa
                      obtain ⟨hin, hinb⟩ := hN.out.ints hm9
                      have hlb := HBUB.out.le
                      have hbB := HBA.out.trans (hN.out.bel.mono HBA.out.size)
                      have hla := HBUA.out.le
                      have hRT : Run w0 wr (fun k => (wl.heap.size ≤ k ∧ k < w5.heap.size) ∨ (wa.heap.size ≤ k ∧ k < wr.heap.size)) c D :=
                        ⟨⟨_, HBUB.out.twin, fun k hk => ⟨by omega, fun e => by omega⟩⟩, fun k hk => by omega, hbB⟩
                      have HINS := Lib.hid (And.intro hin hinb)
                      have H16 := Lib.hid hRT.off
                      clear hin hinb hlb hbB hla hRT
                      go_wp2_with fail
                      refine H14.out.mono ?_
                      rintro e w' ⟨rfl, rfl⟩
                      clear H14
                      go_wp2_with fail
                      refine H16.out.mono ?_
                      rintro e w16 ⟨rfl, hR16, hk16⟩
                      have h17 := hR16.on m ca Aa (ints m) (-1) (show D.P.length < 1000000 from by rw [HM.out]; exact hm9) (HINS.out.1.kept hk16 fun p e => .inr (HINS.out.2 p e)) (ints_length m) hm9
                      rw [HL5.out.good.twin.2] at h17
                      have H17 := Lib.hid h17
                      have HK16 := Lib.hid hk16
                      clear h17 hR16 hk16 H16
                      go_wp2_with fail
                      refine H17.out.mono ?_
                      rintro e w17 ⟨rfl, hR17, hk17⟩
                      have hk := HK16.out.trans hk17
                      have hlb := HBUB.out.le
                      have hrd : SecsO w17 (fun j => wl.heap.size ≤ j ∧ j < w5.heap.size) (.slice sA 16 sc) (readAll D 16) := HBUB.out.read.same hk.size (fun j hj _ => hk.at_ j (.inl hj)) (fun j hj => hk.at_ j (.inl (HBUB.out.rlo j hj)))
                      have h18 := hR17.image
                      have hS : (onD (offD D) (ints m) (-1)).S = readAll D 16 := by rw [← HM.out]; exact HL5.out.good.twin.1
                      rw [hS, readAll_length] at h18
                      have H18 := Lib.hid h18
                      have HRD := Lib.hid hrd
                      have HB17 := Lib.hid hR17.bel
                      clear hk17 hR17 hk hlb hrd h18 hS H17 HK16
                      go_wp2_with fail
                      refine H18.out.mono ?_
                      rintro e w18 ⟨rfl, hS18, hb18⟩
                      obtain ⟨sA2, sc2, e9, hsc1, hsc2, hIR⟩ := HRD.out.img
                      rw [readAll_length] at e9
                      injection e9 with e91 e92 e93
                      rw [← e91] at hIR
                      have hln : ∀ b ∈ readAll D 16, b.length ≤ 4503599627370496 := fun b hb => by
                        obtain ⟨s, hs, rfl⟩ := List.mem_map.1 hb
                        rw [(HL5.out.good.read s (List.mem_range.1 hs)).1]; decide
                      have h19 := same_any (some ⟨w17.heap.size, 0, none⟩) sA 16 16 16 sc (readAll D 16) (readAll D 16) w18 (readAll_length D 16) (readAll_length D 16) hS18.img (hIR.below hb18) (by decide) hln hln
                      rw [decide_eq_true (rfl : readAll D 16 = readAll D 16)] at h19
                      have H19 := Lib.hid h19
                      have HB18 := Lib.hid (HB17.out.trans (hb18.mono HB17.out.size))
                      clear hS18 hb18 hsc1 hsc2 hIR hln h19 H18 HRD e91 e92 e93
                      go_wp2_with fail
                      refine H19.out.mono ?_
                      rintro e w19 ⟨rfl, hb19⟩
                      have H20 := Lib.hid (works_any w19)
                      have HB19 := Lib.hid (HB18.out.trans (hb19.mono HB18.out.size))
                      clear hb19 H19
                      go_wp2_with fail
                      refine H20.out.mono ?_
                      rintro e w20 ⟨rfl, hb20⟩
                      have HB20 := Lib.hid (HB0.out.trans ((HB19.out.trans (hb20.mono HB19.out.size)).mono HB0.out.size))
                      clear hb20 H20
                      go_wp2_with fail
                      go_ret
                      exact ⟨rfl, HB20.out⟩

end Go.Proofs.Ytdohfkblmadejaa
