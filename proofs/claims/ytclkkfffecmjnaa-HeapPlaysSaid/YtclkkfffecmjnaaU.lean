/- heap: Collect, walked: what is reached. -/
import Derived.Test.YtclkkfffecmjnaaV
namespace Go.Proofs.Ytclkkfffecmjnaa
open Go.RowKit Go.Sort
attribute [local go_sem] Oper.semAt_some
theorem collect_nil (A : Option Addr) (len c : Nat) (w : World) : Calls Try.prog 32 #[.pointer none, .slice A len c] w fun e w' => e = .returned (.int .i64 0) ∧ Below w.heap.size w w' := by
  have hb := (Below.refl w.heap.size w).alloc (Nat.le_refl _) (.cells #[.pointer none] 25)
  have HB := Lib.hid hb
  clear hb
  go_enter Try.func32, Try.ntmps32
  go_wp2_with fail
  go_ret
  exact ⟨rfl, HB.out⟩
section
variable {w : World} {M : Mem} {n : Nat} {H : HS}
/-- The blocks that Collect makes at first. -/
def wC (w : World) (g : Nat) : World := (((w.alloc (.cells #[.pointer (some ⟨g, 0, none⟩)] 25)).alloc (.map #[] 0)).alloc (.cells #[.map (some (w.heap.size + 1))] 96)).alloc (.cells #[.slice none 0 0] 41)
theorem wC_size (w : World) (g : Nat) : (wC w g).heap.size = w.heap.size + 4 := by unfold wC; simp
theorem wC_below (w : World) (g : Nat) : Below w.heap.size w (wC w g) := ((((Below.refl _ w).alloc (Nat.le_refl _) _).alloc (by simp) _).alloc (by simp; omega) _).alloc (by simp; omega) _
theorem CoI.start (h : HM w M n H) : CoI w (wC w M.g) M n H (fun _ => False) (fun _ => false) [] := by
  have hn : nS H (fun _ => false) = 0 := by unfold nS; rw [List.countP_eq_zero]; intro x _; simp
  have h1 := Blk.new w 25 #[.pointer (some ⟨M.g, 0, none⟩)]
  have h2 := KMap.made (w.alloc (.cells #[.pointer (some ⟨M.g, 0, none⟩)] 25))
  have h3 := Blk.new ((w.alloc (.cells #[.pointer (some ⟨M.g, 0, none⟩)] 25)).alloc (.map #[] 0)) 96 #[.map (some (w.heap.size + 1))]
  have h4 := Blk.new (((w.alloc (.cells #[.pointer (some ⟨M.g, 0, none⟩)] 25)).alloc (.map #[] 0)).alloc (.cells #[.map (some (w.heap.size + 1))] 96)) 41 #[.slice none 0 0]
  simp only [World.size_alloc] at h1 h2 h3 h4
  have z : ∀ (W : World) o b, b < W.heap.size → (W.alloc o).heap[b]? = W.heap[b]? := fun W o b hb => Below.heap_alloc _ _ _ hb
  refine ⟨h.below (wC_below w M.g), ((h1.alloc _).alloc _).alloc _, ?_, ?_, ⟨none, 0, 0, ?_, IntsZ.nil _, rfl, fun j hj => by simp [Value.ownBlock] at hj⟩, wC_below w M.g, fun b hb => h.lt b hb, fun b hb => hb.elim⟩
  · exact h3.alloc _
  · rw [hn]
    exact (h2.same (z _ _ _ (by simp))).same (z _ _ _ (by simp))
  · exact h4
/-- The last of the list is taken off. -/
theorem CoI.pop {wr : World} {X : Nat → Prop} {S : Int → Bool} {V : List Nat} {v q l c : Nat} (h : CoI w wr M n H X S (V ++ [v])) (hB : Blk wr (w.heap.size + 3) 41 #[.slice (some ⟨q, 0, none⟩) l c]) (hz : IntsZ wr (.slice (some ⟨q, 0, none⟩) l c) (nums (V ++ [v]))) (ho : w.heap.size + 4 ≤ q ∧ ¬ X q) :
    CoI w (wr.setCell ⟨w.heap.size + 3, 0, none⟩ (.slice (some ⟨q, 0, none⟩) V.length c)) M n H X S V ∧ Keep X wr (wr.setCell ⟨w.heap.size + 3, 0, none⟩ (.slice (some ⟨q, 0, none⟩) V.length c)) := by
  have hs : ∀ b, b ≠ w.heap.size + 3 → (wr.setCell ⟨w.heap.size + 3, 0, none⟩ (.slice (some ⟨q, 0, none⟩) V.length c)).heap[b]? = wr.heap[b]? := fun b e => Below.heap_setCell _ _ _ _ e
  have hz2 : nums (V ++ [v]) = nums V ++ [(v : Int)] := by unfold nums; rw [List.map_append]; rfl
  rw [hz2] at hz
  obtain ⟨hp, hl⟩ := hz.pop
  rw [nums_len] at hl
  rw [hl] at hp
  have hsz : (wr.setCell ⟨w.heap.size + 3, 0, none⟩ (.slice (some ⟨q, 0, none⟩) V.length c)).heap.size = wr.heap.size := by simp [World.setCell]
  have hk : Keep X wr (wr.setCell ⟨w.heap.size + 3, 0, none⟩ (.slice (some ⟨q, 0, none⟩) V.length c)) := ⟨by omega, fun b hX => hs b (by have := h.hx b hX; omega)⟩
  refine ⟨⟨h.hm.keep (by omega) (fun b hb => hs b (by have := h.far b hb; omega)), h.ch.same (hs _ (by omega)), h.cr.same (hs _ (by omega)), h.km.same (hs _ (by omega)), ⟨_, _, _, hB.set_ 0 _, hp.same fun k hk => hs k (by have := Option.some.inj hk; have e : k = q := this.symm; omega), rfl, fun j hj => by have := Option.some.inj hj; have e : j = q := this.symm; rw [e]; exact ho⟩, ?_, h.far, fun b hX => by rw [hsz]; exact h.hx b hX⟩, hk⟩
  exact h.bel.setCell (p := ⟨w.heap.size + 3, 0, none⟩) (by show w.heap.size ≤ w.heap.size + 3; omega) _
/-- Between the rounds over the two lists. -/
def CoR (w wr : World) (M : Mem) (n : Nat) (H : HS) (X : Nat → Prop) (R0 : Int → Prop) (D : Int → Prop) : Prop :=
  ∃ S V, CoI w wr M n H X S V ∧ CInv H R0 S V ∧ ClosedX H S V none ∧ ∀ x ∈ H.L, D (x.h : Int) → S (x.h : Int) = true
/-- What is reached. -/
structure CoE (w wr : World) (M : Mem) (n : Nat) (H : HS) (X : Nat → Prop) (R0 : Int → Prop) (S : Int → Bool) : Prop where
  co : CoI w wr M n H X S []
  all : ∀ x ∈ H.L, S (x.h : Int) = true ↔ Reach H R0 x.h
set_option maxRecDepth 20000 in
set_option maxHeartbeats 4000000 in
theorem collect_any (h : HM w M n H) {t : Nat} (hok : H.Ok t) (ht : t < 400000) (hn : n < 800000) (hsz : H.L.length < 400000) (A : Option Addr) (len c : Nat) (zs : List Int) (hlen : zs.length = len) (hl : len ≤ 100000) (hA : Ints w A zs) :
    Calls Try.prog 32 #[.pointer (some ⟨M.g, 0, none⟩), .slice A len c] w fun e w' => ∃ K : Nat → Bool, e = .returned (.int .i64 ((H.L.length - (cutH H K).L.length : Nat) : Int)) ∧ HM w' M n (cutH H K) ∧ Off (fun b => M.R b ≠ .no) w w' ∧ ∀ x ∈ H.L, K x.h = true ↔ Reach H (fun k => k ∈ zs ∨ k ∈ nums (dirtyL H)) x.h := by
  have hmm := @run_makeMap Try.prog
  obtain ⟨w1, hw1⟩ : ∃ w1, wC w M.g = w1 := ⟨_, rfl⟩
  have hco := CoI.start h
  have hsz1 := wC_size w M.g
  have hb1 := wC_below w M.g
  have HD := dirty_any (h.below hb1) hok (by omega) (by omega)
  have c0 := hco.ch.cell 0
  rw [hw1] at hco hsz1 HD hb1 c0
  simp only [List.getElem?_toArray, List.getElem?_cons_zero] at c0
  have HD := Lib.hid HD
  have HC := Lib.hid (And.intro hco (And.intro hsz1 (And.intro h (And.intro hok (And.intro hA hlen)))))
  unfold wC at hw1
  clear h hok hco hsz1 hb1 hA hlen
  go_enter Try.func32, Try.ntmps32
  go_wp2_with fail
  refine HD.out.mono ?_
  rintro e w2 ⟨A2, c2, rfl, hI2, hbl2, hb2⟩
  obtain ⟨n2, hn2⟩ : ∃ n2, (dirtyL H).length = n2 := ⟨_, rfl⟩
  rw [hn2]
  obtain ⟨w3, hw3⟩ : ∃ w3, w2.alloc (.cells #[.slice A len c, .slice A2 n2 c2] 41) = w3 := ⟨_, rfl⟩
  have hb3 : Below w2.heap.size w2 w3 := by rw [← hw3]; exact (Below.refl _ _).alloc (Nat.le_refl _) _
  have hlb : Blk w3 w2.heap.size 41 #[.slice A len c, .slice A2 n2 c2] := by rw [← hw3]; exact Blk.new _ _ _
  have hb13 := hb2.trans (hb3.mono hb2.size)
  have hcol : H.L.length < 900000 := by omega
  obtain ⟨X, hX⟩ : ∃ X : Nat → Prop, (fun b => b = w2.heap.size ∨ (w1.heap.size ≤ b ∧ b < w2.heap.size)) = X := ⟨_, rfl⟩
  have hco3 : CoI w w3 M n H X (fun _ => false) [] := HC.out.1.more hb13 (fun b hb => by
    rw [← hX] at hb
    have := hlb.lt
    have := hb2.size
    rcases hb with hb | hb
    · exact .inr ⟨by omega, by omega⟩
    · exact .inr ⟨by omega, by omega⟩)
  obtain ⟨R0, hR0⟩ : ∃ R0 : Int → Prop, (fun k : Int => k ∈ zs ∨ k ∈ nums (dirtyL H)) = R0 := ⟨_, rfl⟩
  have HR : Hid (CoR w w3 M n H X R0 (fun _ => False)) := Lib.hid ⟨_, _, hco3, CInv.start, (fun x hx hs => by cases hs), fun x hx h => h.elim⟩
  -- what is read of both lists
  have HLS : Hid (∀ wr, Keep X w3 wr → Below w.heap.size w wr → wr.cell? ⟨w2.heap.size, 0, none⟩ = some (.slice A len c) ∧ wr.cell? ⟨w2.heap.size, 1, none⟩ = some (.slice A2 n2 c2) ∧ Ints wr A zs ∧ Ints wr A2 (nums (dirtyL H))) := Lib.hid (fun wr hk hb => by
    have h1 := hlb.same (hk.at_ w2.heap.size (by rw [← hX]; exact .inl rfl))
    refine ⟨h1.cell 0, h1.cell 1, HC.out.2.2.2.2.1.below hb, fun k z hz => ?_⟩
    obtain ⟨b, off, e, hlt, hc, hr⟩ := (hI2.below hb3) k z hz
    have hbk := hbl2 _ e
    have hbk1 : w1.heap.size ≤ b := hbk.1
    have hbk2 : b < w2.heap.size := hbk.2
    exact ⟨b, off, e, Nat.lt_of_lt_of_le hlt hk.size, (World.cell?_of_block (a := ⟨b, off + k, none⟩) (hk.at_ b (by rw [← hX]; exact .inr ⟨hbk1, hbk2⟩))).trans hc, hr⟩)
  have HN2 := Lib.hid (And.intro hn2 (And.intro hR0 hX))
  have hn2b : n2 ≤ 400000 := by rw [← hn2]; unfold dirtyL; rw [List.length_map]; exact Nat.le_trans (List.length_filter_le _ _) (by omega)
  clear hI2 hbl2 hb2 hb3 hlb hb13 hco3 hn2 hR0 hX HD c0 hw1
  go_wp2_with fail
  go_loopw [9, 11, 27, 33] (fun _ _ iv _ wr => ∃ i : Nat, i ≤ 2 ∧ iv = .int .i64 (i : Int) ∧ Hid (CoR w wr M n H X R0 (fun k => (1 ≤ i ∧ k ∈ zs) ∨ (2 ≤ i ∧ k ∈ nums (dirtyL H))) ∧ Keep X w3 wr ∧ Below w.heap.size w wr)) (fun _ _ iv _ _ => 2 - (intOf iv).toNat)
  case atStart =>
    refine ⟨0, Nat.zero_le _, rfl, Lib.hid ⟨?_, Keep.refl _ _, ?_⟩⟩
    · obtain ⟨S, V, h1, h2, h3, h4⟩ := HR.out
      exact ⟨S, V, h1, h2, h3, fun x hx h => by rcases h with h | h <;> omega⟩
    · obtain ⟨S, V, h1, _⟩ := HR.out
      exact h1.bel
  case round =>
    obtain ⟨i, hi, rfl, hI⟩ := hrel
    clear HR
    by_cases hi2 : i < 2
    · have hd : decide ((i : Int) < 2) = true := by simp; omega
      obtain ⟨Aq, lq, cq, zq, hcell, hzl, hlq, hroot, hadv⟩ : ∃ (Aq : Option Addr) (lq cq : Nat) (zq : List Int), (∀ wr', Keep X w3 wr' → Below w.heap.size w wr' → wr'.cell? ⟨w2.heap.size, i, none⟩ = some (.slice Aq lq cq) ∧ Ints wr' Aq zq) ∧ zq.length = lq ∧ lq ≤ 400000 ∧ (∀ k ∈ zq, R0 k) ∧
          (∀ k : Int, ((1 ≤ i + 1 ∧ k ∈ zs) ∨ (2 ≤ i + 1 ∧ k ∈ nums (dirtyL H))) → ((1 ≤ i ∧ k ∈ zs) ∨ (2 ≤ i ∧ k ∈ nums (dirtyL H))) ∨ k ∈ zq) := by
        by_cases e : i = 0
        · subst e
          refine ⟨A, len, c, zs, fun wr' h1 h2 => ⟨(HLS.out wr' h1 h2).1, (HLS.out wr' h1 h2).2.2.1⟩, HC.out.2.2.2.2.2, by omega, fun k hk => by rw [← HN2.out.2.1]; exact .inl hk, fun k hk => ?_⟩
          rcases hk with hk | hk
          · exact .inr hk.2
          · omega
        · obtain rfl : i = 1 := by omega
          refine ⟨A2, n2, c2, nums (dirtyL H), fun wr' h1 h2 => ⟨(HLS.out wr' h1 h2).2.1, (HLS.out wr' h1 h2).2.2.2⟩, by rw [nums_len, HN2.out.1], by omega, fun k hk => by rw [← HN2.out.2.1]; exact .inr hk, fun k hk => ?_⟩
          rcases hk with hk | hk
          · exact .inl (.inl ⟨by omega, hk.2⟩)
          · exact .inr hk.2
      have e0 := (hcell wr hI.out.2.1 hI.out.2.2).1
      have HQ := Lib.hid (And.intro hcell (And.intro hzl (And.intro hroot hadv)))
      have hi2' : i ≠ 2 := by omega
      clear hcell hzl hroot hadv
      go_wp2_with fail
      go_loopw [11, 33] (fun _ jv wr => ∃ j : Nat, j ≤ lq ∧ jv = .int .i64 (j : Int) ∧ Hid (CoR w wr M n H X R0 (fun k => ((1 ≤ i ∧ k ∈ zs) ∨ (2 ≤ i ∧ k ∈ nums (dirtyL H))) ∨ k ∈ zq.take j) ∧ Keep X w3 wr ∧ Below w.heap.size w wr)) (fun _ jv _ => lq - (intOf jv).toNat)
      case atStart =>
        refine ⟨0, Nat.zero_le _, rfl, Lib.hid ⟨?_, hI.out.2⟩⟩
        obtain ⟨S, V, h1, h2, h3, h4⟩ := hI.out.1
        exact ⟨S, V, h1, h2, h3, fun x hx h => by
          rcases h with h | h
          · exact h4 x hx h
          · simp at h⟩
      case round =>
        obtain ⟨w5, rfl⟩ : ∃ w5, w5 = wr := ⟨_, rfl⟩
        clear hI e0
        obtain ⟨j, hj, rfl, hJ⟩ := hrel
        by_cases hjl : j < lq
        · have hdj : decide ((j : Int) < (lq : Int)) = true := by simpa using hjl
          obtain ⟨z, hz⟩ : ∃ z, zq[j]? = some z := ⟨_, List.getElem?_eq_getElem (by rw [HQ.out.2.1]; exact hjl)⟩
          obtain ⟨bx, off, rfl, hblt, ez, hzr⟩ := (HQ.out.1 w5 hJ.out.2.1 hJ.out.2.2).2 j z hz
          obtain ⟨S, V, h1, h2, h3, h4⟩ := hJ.out.1
          have hok := HC.out.2.2.2.1
          have hcr := reach_any h1 hok.rise z (WalkArith.wf_i64 (by omega)) hcol (by have := h2.len; have := nS_le H S; omega)
          have HCR := Lib.hid hcr
          have HJ2 := Lib.hid (And.intro hz (And.intro h1 (And.intro h2 (And.intro h3 (And.intro h4 hJ.out.2)))))
          clear hz h1 h2 h3 h4 hcr hJ hok hzr
          go_wp2_with (go_at_call 64; refine Calls.mono HCR.out ?_; rintro e w6 ⟨rfl, hc6, hk6⟩)
          have HN6 : Hid (CoR w w6 M n H X R0 (fun k => ((1 ≤ i ∧ k ∈ zs) ∨ (2 ≤ i ∧ k ∈ nums (dirtyL H))) ∨ k ∈ zq.take (j + 1)) ∧ Keep X w3 w6 ∧ Below w.heap.size w w6) := Lib.hid (by
            obtain ⟨hz, h1, h2, h3, h4, h5⟩ := HJ2.out
            have hzm : z ∈ zq := List.mem_of_getElem? hz
            have hro : ∀ x ∈ H.L, (x.h : Int) = z → Reach H R0 x.h := fun x hx e => .root hx (by rw [e]; exact HQ.out.2.2.1 z hzm)
            have hst := h2.reach HC.out.2.2.2.1 z hro
            refine ⟨⟨_, _, hc6, hst.1, h3.reach z, fun x hx h => ?_⟩, h5.1.trans hk6, hc6.bel⟩
            obtain ⟨hjz, hjz2⟩ := List.getElem?_eq_some_iff.1 hz
            rw [List.take_succ_eq_append_getElem hjz, hjz2] at h
            rcases h with h | h
            · exact reachS_keep _ _ (h4 x hx (.inl h))
            · rcases List.mem_append.1 h with h | h
              · exact reachS_keep _ _ (h4 x hx (.inr h))
              · have h : (x.h : Int) = z := List.mem_singleton.1 h
                rw [h]
                exact reachS_hit (by rw [obj_mem HC.out.2.2.2.1 hx h]; rfl))
          clear hc6 hk6 HCR HJ2
          go_wp2_with fail
          go_roundw
          case rel => exact ⟨j + 1, by omega, by go_num, HN6⟩
          case measure => simp [intOf]; omega
        · obtain rfl : lq = j := by omega
          have hdj : decide ((lq : Int) < (lq : Int)) = false := by simp
          have HN6 : Hid (CoR w w5 M n H X R0 (fun k => (1 ≤ i + 1 ∧ k ∈ zs) ∨ (2 ≤ i + 1 ∧ k ∈ nums (dirtyL H))) ∧ Keep X w3 w5 ∧ Below w.heap.size w w5) := Lib.hid (by
            obtain ⟨S, V, h1, h2, h3, h4⟩ := hJ.out.1
            refine ⟨⟨S, V, h1, h2, h3, fun x hx h => h4 x hx ?_⟩, hJ.out.2⟩
            rw [List.take_of_length_le (by rw [HQ.out.2.1]; exact Nat.le_refl _)]
            exact HQ.out.2.2.2 _ h)
          clear hJ HQ
          go_wp2_with fail
          go_roundw
          case rel => exact ⟨i + 1, by omega, by go_num, HN6⟩
          case measure => simp [intOf]; omega
    · have hi3 : i = 2 := by omega
      obtain ⟨iv, hiv⟩ : ∃ iv : Int, (i : Int) = iv := ⟨_, rfl⟩
      have hd : decide (iv < 2) = false := by simp; omega
      rw [hiv]
      have HP : Hid (CoR w wr M n H X R0 R0) := Lib.hid (by
        obtain ⟨S, V, h1, h2, h3, h4⟩ := hI.out.1
        refine ⟨S, V, h1, h2, h3, fun x hx h => h4 x hx ?_⟩
        rw [← HN2.out.2.1] at h
        rcases h with h | h
        · exact .inl ⟨by omega, h⟩
        · exact .inr ⟨by omega, h⟩)
      clear hI HLS hi3 hi2 hi hiv
      go_wp2_with fail
      go_loopw [12, 65, 66, 67] (fun _ _ _ _ wr => Hid (CoR w wr M n H X R0 R0)) (fun _ _ _ _ wr => 2 * (H.L.length - mapLen wr (w.heap.size + 1)) + listLen wr (w.heap.size + 3))
      case atStart => exact HP
      case round =>
        obtain ⟨w5, rfl⟩ : ∃ w5, w5 = wr := ⟨_, rfl⟩
        clear HP hd
        obtain ⟨S, V, h1, h2, h3, h4⟩ := hrel.out
        have hmz := h1.meas
        obtain ⟨A0, l0, cc0, hl1, hl2, hl0o, hl3⟩ := h1.cl
        have e0 := hl1.cell 0
        have ef := hl1.frozen 0
        simp only [List.getElem?_toArray, List.getElem?_cons_zero] at e0
        by_cases hv : V = []
        · subst hv
          obtain rfl : l0 = 0 := hl0o
          have HE : Hid (CoE w w5 M n H X R0 S) := Lib.hid ⟨h1, fun x hx => h2.all h3 h4 HC.out.2.2.2.1.rise hx⟩
          obtain ⟨_, _, _, k3, _⟩ := h1.hm.told
          have k0 := h1.ch.cell 0
          have k2 := h1.cr.cell 0
          simp only [List.getElem?_toArray, List.getElem?_cons_zero] at k0 k2
          have hobs := h1.hm.obs
          obtain ⟨D, hown, hdsz, hS⟩ := hobs
          have hw5 : w.heap.size + 4 ≤ w5.heap.size := by have := hl1.lt; omega
          have hmob : M.ob < w.heap.size := h1.far _ (by rw [h1.hm.rob]; intro e; cases e)
          have HS0 := Lib.hid (And.intro hdsz (And.intro hS (And.intro hw5 hmob)))
          clear h1 h2 h3 h4 hl1 hl2 hl3 hmz hrel hdsz hS hw5 hmob
          go_wp2_with (first
            | (at_range; refine wpList_range_own _ rfl _ 77 rfl 3 89 (Maps.int_keyed Try.underlying3) Try.underlying77 _ M.ob n D rfl hown ?_; intro w6 hrg0 hg0 hs0)
            | go_in)
          have HKK : Hid (CoK w w6 M H S w5.heap.size) := Lib.hid (by
            have hco := HE.out.co
            have hsm : ∀ b, b < w5.heap.size → w6.heap[b]? = w5.heap[b]? := fun b hb => hg0.block b hb (by simp)
            refine ⟨hco.ch.same (hsm _ hco.ch.lt), hco.cr.same (hsm _ hco.cr.lt), hco.km.same (hsm _ hco.km.lt), ?_, hco.far, HS0.out.2.2.1⟩
            exact (Off.of_new hco.bel _).trans ⟨hg0.os, hg0.tape, hg0.output, hg0.size, fun b hb _ => hsm b hb⟩)
          have hall : ∀ x ∈ H.L, keepK S (Maps.has D) x.h = true := fun x hx => by
            unfold keepK
            have h9 := (HC.out.2.2.2.1.inn x hx).2.1
            have h8 := HC.out.2.2.2.1.cnt
            rw [(HS0.out.2.1 _ (WalkArith.wf_i64 (by omega))).2, HE.out.co.hm.at_ (HS.obj_of HC.out.2.2.2.1 hx)]
            simp
          have hcut := cutH_all HC.out.2.2.2.1 hall
          have HHM : Hid (HM w6 M n (cutH H (keepK S (Maps.has D)))) := Lib.hid (by
            rw [hcut]
            exact HE.out.co.hm.keep hg0.size fun b hb => hg0.block b (HE.out.co.hm.lt b hb) (by simp))
          have HS1 : Hid (∀ i : Int, (Lit.int .i64 i).wf = true → D.atKey (.int .i64 i) (refD none) = refD (atH M.B (cutH H (keepK S (Maps.has D))).L i) ∧ Maps.has D (.int .i64 i) = (atH M.B (cutH H (keepK S (Maps.has D))).L i).isSome) := Lib.hid (by rw [hcut]; exact HS0.out.2.1)
          have HGN : Hid (0 + (cutH H (keepK S (Maps.has D))).L.length = H.L.length) := Lib.hid (by rw [hcut]; omega)
          clear hall hcut hg0 hs0 hown e0 ef k0 k2 k3
          go_frame
          go_loopw [15, 16, 17] (fun gv _ _ wr => ∃ (left : Lit → Bool) (cnt : Nat) (D1 : DataW Unit) (gone : Nat), gv = .int .i64 (gone : Int) ∧ wr.ranges Try.prog 3 ptrR M.ob w5.heap.size n D1 left cnt ∧ Hid (HM wr M n (cutH H (keepK S left))) ∧ Hid (CoK w wr M H S w5.heap.size) ∧ Hid (∀ z, left z = true → Maps.has D1 z = true) ∧
              Hid (∀ i : Int, (Lit.int .i64 i).wf = true → D1.atKey (.int .i64 i) (refD none) = refD (atH M.B (cutH H (keepK S left)).L i) ∧ Maps.has D1 (.int .i64 i) = (atH M.B (cutH H (keepK S left)).L i).isSome) ∧ Hid (gone + (cutH H (keepK S left)).L.length = H.L.length))
            (fun _ _ _ wr => wr.rangeLeft M.ob w5.heap.size)
          case atStart => exact ⟨_, _, D, 0, rfl, hrg0, HHM, HKK, Lib.hid (fun z h => h), HS1, HGN⟩
          case round =>
            clear HHM HKK HS1 HGN hrg0
            obtain ⟨w7, rfl⟩ : ∃ w7, w7 = wr := ⟨_, rfl⟩
            obtain ⟨left, cnt, D1, gone, rfl, hrg, HHM, HKK, HSUB, HS1, HGN⟩ := hrel
            go_wp2_with (first
              | (at_next; refine next_ptr _ rfl _ rfl (atH M.B (cutH H (keepK S left)).L) M.ob w5.heap.size n D1 left cnt HS1.out HSUB.out rfl hrg ?_ ?_)
              | go_in)
            · intro hc0 hl0
              have hK0 : ∀ j, keepK S left j = S (j : Int) := fun j => by unfold keepK; rw [hl0]; simp
              have HF : Hid ((gone : Int) = ((H.L.length - (cutH H (keepK S left)).L.length : Nat) : Int) ∧ ∀ x ∈ H.L, keepK S left x.h = true ↔ Reach H (fun k => k ∈ zs ∨ k ∈ nums (dirtyL H)) x.h) := Lib.hid (by
                have := HGN.out
                refine ⟨by omega, fun x hx => ?_⟩
                rw [hK0, HN2.out.2.1]
                exact HE.out.all x hx)
              clear hK0 hl0
              go_wp2_with fail
              go_ret
              exact ⟨keepK S left, by rw [← HF.out.1]; rfl, HHM.out, HKK.out.off, HF.out.2⟩
            · intro y f w8 cnt1 hwx hlx hfx hrg1 hlt hg1 hs1 hen
              obtain ⟨x, hfx1, rfl⟩ := Option.map_eq_some_iff.1 hfx
              have hxl := List.mem_of_find?_eq_some hfx1
              obtain rfl : (x.h : Int) = y := by have := List.find?_some hfx1; simpa using this
              obtain ⟨hx0, hxk⟩ := List.mem_filter.1 hxl
              have hok := HC.out.2.2.2.1
              have hin := hok.inn x hx0
              have hcn := hok.cnt
              have hoff : Off (fun b => M.R b ≠ .no ∨ b = w5.heap.size) w7 w8 := (Off.of_grown hg1).mono fun k _ e => .inr (Option.some.inj e).symm
              have hkk := HKK.out.step hoff
              have hhm : HM w8 M n (cutH H (keepK S left)) := HHM.out.keep hg1.size fun b hb => hg1.block b (HHM.out.lt b hb) fun e => by
                have := HKK.out.far b hb
                have := HKK.out.new
                have := Option.some.inj e
                omega
              have k0 := hkk.ch.cell 0
              have k2 := hkk.cr.cell 0
              simp only [List.getElem?_toArray, List.getElem?_cons_zero] at k0 k2
              have hlk := hkk.km.look (x.h : Int) hwx
              obtain ⟨sb, hsb⟩ : ∃ sb, S (x.h : Int) = sb := ⟨_, rfl⟩
              rw [hsb] at hlk
              have HSUB1 : Hid (∀ z, (left z && !z.sameKey (.int .i64 (x.h : Int))) = true → Maps.has D1 z = true) := Lib.hid (fun z hz => HSUB.out z (by
                cases hhz : left z with
                | true => rfl
                | false => rw [hhz] at hz; cases hz))
              have HLT := Lib.hid (And.intro hlt (And.intro hrg.left_eq hrg1))
              cases sb with
              | true =>
                have hkp := keepK_stays (left := left) hsb
                have HN := Lib.hid (And.intro hhm (And.intro hkk (And.intro hkp hrg1.left_eq)))
                clear hfx hfx1 hxl hx0 hxk hok hin hcn hoff hkk hhm hsb hkp hg1 hs1 hlt hrg hrg1 hlx
                go_wp2_with fail
                go_roundw
                case rel => exact ⟨_, cnt1, D1, gone, rfl, HLT.out.2.2, Lib.hid (by rw [HN.out.2.2.1]; exact HN.out.1), Lib.hid HN.out.2.1, HSUB1, Lib.hid (by rw [HN.out.2.2.1]; exact HS1.out), Lib.hid (by rw [HN.out.2.2.1]; exact HGN.out)⟩
                case measure => rw [HN.out.2.2.2, HLT.out.2.1]; exact HLT.out.1
              | false =>
                obtain ⟨Ax, cx, hh⟩ := hhm.held x hxl
                obtain ⟨q0, q1, q2, q3, _⟩ := hh.told
                obtain ⟨_, k1, _, k3, _, _, kf, _⟩ := hhm.told
                have hone := delL_one (cutH_ok hok (keepK S left)).rise hxl
                obtain ⟨U, hU⟩ : ∃ U, (cutH H (keepK S left)).used = U := ⟨_, rfl⟩
                obtain ⟨zz, hzz⟩ : ∃ zz, Hp.sizeO x.o = zz := ⟨_, rfl⟩
                obtain ⟨u1, hu1⟩ : ∃ u1, Hp.total (delL x.h (cutH H (keepK S left)).L) = u1 := ⟨_, rfl⟩
                have hUr := (cutH_ok hok (keepK S left)).room
                have hUs := (cutH_ok hok (keepK S left)).sum
                rw [← hUs, hU, hzz, hu1] at hone
                rw [hU] at hUr k1
                have HSZ : Hid (∀ q, Calls Try.prog 34 #[.agg #[.int .u8 (x.o.k : Int), .int .i64 x.o.tag, .slice Ax x.o.ws.length cx, .string (str x.o.t)]] (w8.drewN q) fun e w' => e = .returned (.int .i64 (zz : Int)) ∧ Below (w8.drewN q).heap.size (w8.drewN q) w') := Lib.hid fun q => by rw [← hzz]; exact size_any x.o Ax cx (w8.drewN q) hin.2.2.1
                have hU9 : U ≤ 16777216 := by omega
                have HU := Lib.hid hU
                have hz9 : zz ≤ U := by omega
                have hsub : (U : Int) - (zz : Int) = (u1 : Int) := by omega
                have hxb : x.h < 1000000 := by omega
                have hwr : IntKind.i64.wrap (u1 : Int) = (u1 : Int) := IntWalk.i64_in _ (by omega)
                have HWX := Lib.hid hwx
                have hkg := keepK_goes (left := left) hsb
                have HN := Lib.hid (And.intro hhm (And.intro hkk (And.intro hkg (And.intro hrg1.left_eq (And.intro hxl (And.intro hu1 (And.intro hone.1 (And.intro hok hh))))))))
                clear hfx hfx1 hxl hx0 hxk hok hin hcn hoff hkk hhm hsb hkg hg1 hs1 hlt hrg hrg1 hlx hone hU hzz hu1 hUr hUs hh
                go_wp2_with fail
                go_region_with (go_at_call 34; refine (HSZ.out _).mono ?_; rintro e w9 ⟨rfl, hb9⟩
                                have hm9 := (HN.out.1.below (drewN_below w8 _)).below hb9
                                obtain ⟨_, j1, _, j3, _, _, jf, _⟩ := hm9.told
                                rw [HU.out] at j1
                                have j0 := (hb9.cell (p := ⟨w.heap.size, 0, none⟩) HN.out.2.1.ch.lt).trans k0
                                have HM9 := Lib.hid (And.intro hm9 hb9)
                                clear hm9 hb9)
                all_goals
                  obtain ⟨hm9, hb9⟩ := HM9.out
                  have hmA := hm9.head1 u1
                  have hoA : Off (fun b => b = M.g) w8 (w9.setCell ⟨M.g, 1, none⟩ (.int .i64 (u1 : Int))) := ((Off.drewN _ w8 1).trans (Off.of_new hb9 _)).trans (Off.setc w9 M.g 1 (.int .i64 (u1 : Int)))
                  obtain ⟨wA, hwA⟩ : ∃ wA, w9.setCell ⟨M.g, 1, none⟩ (.int .i64 (u1 : Int)) = wA := ⟨_, rfl⟩
                  rw [hwA] at hmA hoA
                  rw [hwA]
                  have hrg' := hm9.rg
                  have hkA := HN.out.2.1.step (hoA.mono fun b _ e => .inl (by rw [show b = M.g from e, hrg']; intro e; cases e))
                  have b0 := hkA.ch.cell 0
                  simp only [List.getElem?_toArray, List.getElem?_cons_zero] at b0
                  have hok9 := cutH_ok HN.out.2.2.2.2.2.2.2.1 (keepK S left)
                  have HUT := Lib.hid (untie_any hmA hok9.ties (fun p hp => (hok9.tied p hp).2.2) x.h hxb)
                  have HA := Lib.hid (And.intro hmA (And.intro hkA hoA))
                  clear hm9 hb9 hmA hoA hkA hok9 hwA hrg' j0 j1 j3 jf
                  go_wp2_with fail
                  refine HUT.out.mono ?_
                  rintro e wB ⟨rfl, hmB, hoB⟩
                  obtain ⟨wC, hrC, hmC, hoC⟩ := hmB.take_out (cutH_ok HN.out.2.2.2.2.2.2.2.1 (keepK S left)).rise HN.out.2.2.2.2.1 HWX.out 0
                  have hog : M.ob ≠ M.g := fun e => by have := hmB.rob; rw [e, hmB.rg] at this; cases this
                  have hoi : M.ob ≠ M.oi := fun e => by have := hmB.rob; rw [e, hmB.roi] at this; cases this
                  have hoh : M.ob ≠ M.ha := fun e => by have := hmB.rob; rw [e, hmB.rha] at this; cases this
                  have hrr : ∀ b, M.R b ≠ .no → w5.heap.size ≠ b := fun b hb e => by have := HN.out.2.1.far b hb; have := HN.out.2.1.new; omega
                  have hsame : ∀ b, b < w8.heap.size → b ≠ M.g → b ≠ M.oi → b ≠ M.ha → wB.heap[b]? = w8.heap[b]? := fun b hb h1 h2 h3 =>
                    (hoB.block b (Nat.lt_of_lt_of_le hb HA.out.2.2.size) (fun e => e.elim h2 h3)).trans (HA.out.2.2.block b hb h1)
                  have hrgB := World.ranges_same HLT.out.2.2 (hsame M.ob HN.out.1.obs.lt hog hoi hoh) (hsame w5.heap.size HLT.out.2.2.lt (hrr _ (by rw [hmB.rg]; intro e; cases e)) (hrr _ (by rw [hmB.roi]; intro e; cases e)) (hrr _ (by rw [hmB.rha]; intro e; cases e)))
                  obtain ⟨wC2, cntC, hrC2, hrgC, hcC, _⟩ := hrgB.drop (Maps.int_keyed Try.underlying3) Try.underlying77 (Maps.keyOf_int_mk Try.underlying3 HWX.out) 0
                  rw [hrC] at hrC2
                  obtain rfl : wC = wC2 := by injection hrC2
                  rw [Maps.strike_twice] at hrgC
                  have hoB2 : Off (fun b => M.R b ≠ .no ∨ b = w5.heap.size) wA wB := hoB.mono fun b _ e => .inl (e.elim (fun e => by rw [e, hmB.roi]; intro e; cases e) (fun e => by rw [e, hmB.rha]; intro e; cases e))
                  have hoAll : Off (fun b => M.R b ≠ .no ∨ b = w5.heap.size) wA wC := hoB2.trans (hoC.mono fun b _ e => .inl (by rw [show b = M.ob from e, hmB.rob]; intro e; cases e))
                  have hkC := HA.out.2.1.step hoAll
                  have hcut := cutH_del H (keepK S left) x.h
                  rw [← HN.out.2.2.1, HN.out.2.2.2.2.2.1] at hcut
                  have hmC2 : HM wC M n (cutH H (keepK S fun z => left z && !z.sameKey (.int .i64 (x.h : Int)))) := by rw [← hcut]; exact hmC
                  have hb1 : wB.cell? ⟨w.heap.size, 0, none⟩ = some (.pointer (some ⟨M.g, 0, none⟩)) := (HA.out.2.1.step hoB2).ch.cell 0
                  obtain ⟨_, _, _, hb3, _⟩ := hmB.told
                  have HLen : Hid (gone + 1 + (cutH H (keepK S fun z => left z && !z.sameKey (.int .i64 (x.h : Int)))).L.length = H.L.length) := Lib.hid (by
                    have h8 := (delL_one (cutH_ok HN.out.2.2.2.2.2.2.2.1 (keepK S left)).rise HN.out.2.2.2.2.1).1
                    have h9 := HGN.out
                    rw [← hcut]
                    show gone + 1 + (delL x.h (cutH H (keepK S left)).L).length = _
                    omega)
                  have HSC : Hid (∀ i : Int, (Lit.int .i64 i).wf = true → (D1.del (.int .i64 (x.h : Int))).atKey (.int .i64 i) (refD none) = refD (atH M.B (cutH H (keepK S fun z => left z && !z.sameKey (.int .i64 (x.h : Int)))).L i) ∧ Maps.has (D1.del (.int .i64 (x.h : Int))) (.int .i64 i) = (atH M.B (cutH H (keepK S fun z => left z && !z.sameKey (.int .i64 (x.h : Int)))).L i).isSome) := Lib.hid (by
                    rw [← hcut]
                    exact strikeD HS1.out)
                  have HSB := Lib.hid (strikeSub HSUB1.out)
                  have HNX := Lib.hid (And.intro hmC2 (And.intro hkC (And.intro hrgC (And.intro hrgC.left_eq hcC))))
                  have hgl : gone ≤ 400000 := by have := HGN.out; omega
                  clear hmB hoB hmC hoC hog hoi hoh hrr hsame hrgB hrC2 hrgC hcC hoAll hoB2 hkC hcut hmC2
                  go_wp2_with fail
                  go_roundw
                  case rel => exact ⟨_, cntC, _, gone + 1, by go_num, HNX.out.2.2.1, Lib.hid HNX.out.1, Lib.hid HNX.out.2.1, HSB, HSC, HLen⟩
                  case measure => rw [HNX.out.2.2.2.1, HLT.out.2.1]; have h8 := HNX.out.2.2.2.2; have h9 := HLT.out.1; exact Nat.lt_of_le_of_lt h8 h9
        · obtain ⟨V, v, rfl⟩ : ∃ V' v, V = V' ++ [v] := ⟨V.dropLast, V.getLast hv, (List.dropLast_concat_getLast hv).symm⟩
          clear hv
          obtain ⟨q, c9, eA, hqlt, hq⟩ := hl2.get V.length (v : Int) (by unfold nums; rw [List.map_append, List.getElem?_append_right (by simp)]; simp)
          injection eA with eA1 eA2 eA3
          subst eA1
          obtain ⟨vn, hvn⟩ : ∃ vn, V.length = vn := ⟨_, rfl⟩
          have hl0 : l0 = vn + 1 := by rw [hl0o, ← hvn]; simp
          clear hl0o
          have hcap : l0 ≤ cc0 ∧ cc0 ≤ maxLen := by
            obtain ⟨_, c8, e8, h8, h9⟩ := hl2.shape
            injection e8 with e81 e82 e83
            rw [e83]
            exact ⟨by rw [e82]; exact h8, h9⟩
          obtain ⟨hpop, hkpop⟩ := h1.pop hl1 hl2 (hl3 q rfl)
          rw [hvn] at hq hpop hkpop
          obtain ⟨hinv, hclo, htodo, hvV⟩ := h2.pop h3
          have hSv := h2.sub v (List.mem_append.2 (.inr (List.mem_singleton.2 rfl)))
          obtain ⟨x, hxl, hxv, hxr⟩ := h2.sound _ hSv
          have hobj : H.obj (v : Int) = some x := obj_mem HC.out.2.2.2.1 hxl hxv
          have hxh : x.h = v := by omega
          have hin := HC.out.2.2.2.1.inn x hxl
          have hcn := HC.out.2.2.2.1.cnt
          have hlk0 := hpop.obs (v : Int) (WalkArith.wf_i64 (by omega))
          rw [hobj] at hlk0
          obtain ⟨w6, hw6⟩ : ∃ w6, w5.setCell ⟨w.heap.size + 3, 0, none⟩ (.slice (some ⟨q, 0, none⟩) vn cc0) = w6 := ⟨_, rfl⟩
          rw [hw6] at hpop hkpop hlk0
          have hlk : (Instr.lookup 77 (.map (some M.ob)) (.int .i64 (v : Int)) false).run Try.prog w6 = .ok (.pointer (some ⟨M.B x.h, 0, none⟩)) w6 := hlk0
          clear hlk0
          have hwid := hpop.wide
          obtain ⟨Y, hY⟩ : ∃ Y : Nat → Prop, (fun b => X b ∨ M.R b ≠ .no) = Y := ⟨_, rfl⟩
          rw [hY] at hwid
          obtain ⟨Aw, cw, hh⟩ := hpop.hm.held x hxl
          obtain ⟨_, _, q2, _⟩ := hh.told
          obtain ⟨_, _, _, g3, _⟩ := hpop.hm.told
          have g0 := hpop.ch.cell 0
          simp only [List.getElem?_toArray, List.getElem?_cons_zero] at g0
          obtain ⟨nw, hnw⟩ : ∃ nw, x.o.ws.length = nw := ⟨_, rfl⟩
          obtain ⟨bf, hbf⟩ : ∃ bf, M.B x.h = bf := ⟨_, rfl⟩
          have hrow := hh.row
          rw [hnw, hbf] at q2
          rw [hnw] at hrow
          rw [hbf] at hlk
          have hnwb : nw ≤ 100000 := by rw [← hnw]; exact hin.2.2.1.1
          have hlv : (l0 : Int) - 1 = (vn : Int) := by omega
          have hvl : vn < l0 := by omega
          have hvc : vn ≤ cc0 := by omega
          have hl0p : decide ((l0 : Int) > 0) = true := by simp; omega
          have hl0q : 0 < l0 := by omega
          have hvn9 : vn ≤ 400000 := by have := hinv.len; have := nS_le H S; omega
          -- what is read of the words
          have HROW : Hid (∀ wr, Keep Y w6 wr → WRow 0 wr Aw nw cw x.o.ws) := Lib.hid (fun wr hk => hrow.same hk.size fun p e => hk.at_ _ (by rw [← hY]; exact .inr (by rw [hh.wlab p e]; intro e; cases e)))
          have HPW : Hid (CoW w w6 M n H Y R0 x (todo H S V) 0 ∧ Keep Y w6 w6) := Lib.hid ⟨⟨S, V, hwid, hinv, by rw [hxh]; exact hclo, h4, by rw [hxh]; exact hSv, Nat.le_refl _, fun z hz => by simp at hz⟩, Keep.refl _ _⟩
          have HPX := Lib.hid (And.intro hxl (And.intro hxr (And.intro hnw (And.intro hY (And.intro htodo hmz)))))
          obtain ⟨T, hT⟩ : ∃ T, todo H S V = T := ⟨_, rfl⟩
          rw [hT] at HPX HPW
          clear h1 h2 h3 h4 hl1 hl2 hl3 hmz hrel hpop hkpop hinv hclo htodo hxl hxh hxr hnw hh hobj hxv hSv hvV hbf hin hcn hl0 hcap hvn eA2 eA3 hwid hrow hY hT
          go_wp2_with fail
          go_loopw [14, 67] (fun _ iv wr => ∃ i : Nat, i ≤ nw ∧ iv = .int .i64 (i : Int) ∧ Hid (CoW w wr M n H Y R0 x T i ∧ Keep Y w6 wr)) (fun _ iv _ => nw - (intOf iv).toNat)
          case atStart => exact ⟨0, Nat.zero_le _, rfl, HPW⟩
          case round =>
            obtain ⟨w7, rfl⟩ : ∃ w7, w7 = wr := ⟨_, rfl⟩
            obtain ⟨i, hi, rfl, hI⟩ := hrel
            clear HPW
            by_cases hin : i < nw
            · have hd : decide ((i : Int) < (nw : Int)) = true := by simpa using hin
              obtain ⟨q8, z, eAw, hz, hzok, hqlt8, _, c80, c81, _⟩ := (HROW.out w7 hI.out.2).at_ hin
              subst eAw
              have HZ := Lib.hid (And.intro hz hzok)
              obtain ⟨zk, zn⟩ := z
              dsimp only at c80 c81
              have hbel : Below w7.heap.size w7 (w7.alloc (.cells #[.int .u8 (zk : Int), .int .i64 zn] 37)) := (Below.refl _ _).alloc (Nat.le_refl _) _
              have HBE := Lib.hid hbel
              by_cases hk2 : zk = 2
              · subst hk2
                obtain ⟨S7, V7, h1, h2, h3, h4, h5, h6, h7⟩ := hI.out.1
                have hcr := reach_any (h1.below hbel) HC.out.2.2.2.1.rise zn (WalkArith.wf_i64 (by have h8 := hzok.2.1; have h9 := hzok.2.2; dsimp only at h8 h9; omega)) hcol (by have := h2.len; have := nS_le H S7; omega)
                have HCR := Lib.hid hcr
                have HJ2 := Lib.hid (And.intro h1 (And.intro h2 (And.intro h3 (And.intro h4 (And.intro h5 (And.intro h6 (And.intro h7 hI.out.2)))))))
                clear h1 h2 h3 h4 h5 h6 h7 hcr hI hz hzok hbel
                go_wp2_with (go_at_call 64; refine Calls.mono HCR.out ?_; rintro e w8 ⟨rfl, hc8, hk8⟩)
                have HN : Hid (CoW w w8 M n H Y R0 x T (i + 1) ∧ Keep Y w6 w8) := Lib.hid (by
                  obtain ⟨h1, h2, h3, h4, h5, h6, h7, h8⟩ := HJ2.out
                  exact ⟨CoW.next HC.out.2.2.2.1 HPX.out.1 HPX.out.2.1 HZ.out.1 rfl hc8 h2 h3 h4 h5 h6 h7, (h8.trans ⟨HBE.out.size, fun b hb => HBE.out.block b (h1.hx b hb).1⟩).trans hk8⟩)
                clear hc8 hk8 HCR HJ2
                go_wp2_with fail
                go_roundw
                case rel => exact ⟨i + 1, by omega, by go_num, HN⟩
                case measure => simp [intOf]; omega
              · have hkd : ((zk : Int) == 2) = false := by simp; omega
                have HN : Hid (CoW w (w7.alloc (.cells #[.int .u8 (zk : Int), .int .i64 zn] 37)) M n H Y R0 x T (i + 1) ∧ Keep Y w6 (w7.alloc (.cells #[.int .u8 (zk : Int), .int .i64 zn] 37))) := Lib.hid (by
                  obtain ⟨S7, V7, h1, _⟩ := hI.out.1
                  exact ⟨hI.out.1.skip HZ.out.1 hk2 HBE.out, hI.out.2.trans ⟨HBE.out.size, fun b hb => HBE.out.block b (h1.hx b hb).1⟩⟩)
                clear hI hz hzok hbel
                go_wp2_with fail
                go_roundw
                case rel => exact ⟨i + 1, by omega, by go_num, HN⟩
                case measure => simp [intOf]; omega
            · obtain rfl : nw = i := by omega
              have hd : decide ((nw : Int) < (nw : Int)) = false := by simp
              have HN : Hid (∃ S' V', CoI w w7 M n H X S' V' ∧ CInv H R0 S' V' ∧ ClosedX H S' V' none ∧ (∀ y ∈ H.L, R0 (y.h : Int) → S' (y.h : Int) = true) ∧ todo H S' V' ≤ T) := Lib.hid (by
                have h := hI.out.1
                rw [← HPX.out.2.2.1] at h
                exact h.done HC.out.2.2.2.1.rise HPX.out.1 fun b hb => by rw [← HPX.out.2.2.2.1]; exact .inl hb)
              clear hI
              go_wp2_with fail
              go_roundw
              case rel =>
                obtain ⟨S', V', h1, h2, h3, h4, _⟩ := HN.out
                exact Lib.hid ⟨S', V', h1, h2, h3, h4⟩
              case measure =>
                obtain ⟨S', V', h1, h2, h3, h4, h5⟩ := HN.out
                rw [h1.meas, HPX.out.2.2.2.2.2, ← HPX.out.2.2.2.2.1]
                omega
end
end Go.Proofs.Ytclkkfffecmjnaa
