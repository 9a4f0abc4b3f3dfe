/- stamp, numbers too: come. -/
import Derived.Test.YtadogebhkldeiaaGreatDoorZK
namespace Go.Proofs.YtadogebhkldeiaaGreatDoor
theorem NumK.offz {w w' : World} {G : Nat → Prop} (h : NumK w.heap.size w) (ho : Off G w w') (h1 : ¬ G 1) (h2 : ¬ G 4) : NumK w'.heap.size w' where
  low1 := Nat.lt_of_lt_of_le h.low1 ho.size
  low2 := Nat.lt_of_lt_of_le h.low2 ho.size
  tab := by
    have hv := h.tab
    have hg : Tryz.prog.globalNamed "internal/strconv.uint64pow10" = some 4 := by kernel_rfl
    unfold Lib.TabIs World.var? at hv ⊢
    simp only [hg, Option.bind_some] at hv ⊢
    rw [ho.block _ h.low2 h2]
    exact hv
  max := by
    obtain ⟨m, hm⟩ := h.max
    exact ⟨m, (World.cell?_of_block (a := ⟨1, 0, none⟩) (ho.block _ h.low1 h1)).trans hm⟩
open Go.RowKit Ty
set_option linter.unusedVariables false
set_option linter.unusedSimpArgs false
attribute [local go_sem] Oper.semAt_some
theorem IsS.off {B : Nat} {X G : Nat → Prop} {g : Nat} {ss : List (List UInt8)} {w w' : World} (h : IsS B X g ss w) (ho : Off G w w') (hG : ∀ k, k < w.heap.size → G k → X k) : IsS B X g ss w' := by
  obtain ⟨A, n, c, h⟩ := h
  have hg : ¬ G g := fun e => (h.off g (hG g h.at_.lt e)).2.1 rfl
  refine ⟨A, n, c, h.at_.off ho hg, h.low, h.len, ⟨?_, ?_⟩, h.ne, fun k hk => ⟨Nat.lt_of_lt_of_le (h.off k hk).1 ho.size, (h.off k hk).2⟩⟩
  · exact h.own.1
  · rcases h.own.2 with h0 | ⟨b, cap, cur, e2, k5, k6, k7⟩
    · exact .inl h0
    · have hb := (Array.getElem?_eq_some_iff.1 k6).1
      exact .inr ⟨b, cap, cur, e2, k5, (ho.block b hb (fun e => (h.off b (hG b hb e)).2.2 (by rw [e2]; rfl))).trans k6, k7⟩
/-- One name comes: once, unless it is the language's own. -/
def come1 (L : List (List UInt8)) (x : List UInt8) : List (List UInt8) := if (ownN x).2 || decide (x ∈ L) then L else L ++ [x]
def comeL (L ns : List (List UInt8)) : List (List UInt8) := ns.foldl come1 L
theorem comeL_next {L ns : List (List UInt8)} {i : Nat} {x : List UInt8} (h : ns[i]? = some x) : comeL L (ns.take (i + 1)) = come1 (comeL L (ns.take i)) x := by
  rw [List.take_add_one, h]
  unfold comeL
  rw [List.foldl_append]
  rfl
theorem come1_le (L : List (List UInt8)) (x : List UInt8) : (come1 L x).length ≤ L.length + 1 := by
  unfold come1
  split
  · omega
  · rw [List.length_append]; exact Nat.le_refl _
theorem comeL_le (ns : List (List UInt8)) : ∀ L : List (List UInt8), (comeL L ns).length ≤ L.length + ns.length := by
  induction ns with
  | nil => intro L; exact Nat.le_refl _
  | cons x ns ih =>
    intro L
    have h1 := ih (come1 L x)
    have h2 := come1_le L x
    have : comeL L (x :: ns) = comeL (come1 L x) ns := rfl
    rw [this, List.length_cons]
    omega
theorem namesL_mem {s : List UInt8} : ∀ {ts : List Ty}, s ∈ namesL ts → ∃ t ∈ ts, s ∈ namesT t
  | [], h => by rw [namesL] at h; cases h
  | t :: ts, h => by
    rw [namesL] at h
    rcases List.mem_append.1 h with h | h
    · exact ⟨t, List.mem_cons_self .., h⟩
    · obtain ⟨u, hu, h⟩ := namesL_mem h
      exact ⟨u, List.mem_cons_of_mem _ hu, h⟩
theorem namesL_len {F : Nat → Prop} {w : World} {A : Option Addr} {ts : List Ty} (h : Ty.At F w A ts) : ∀ s ∈ namesL ts, s.length ≤ maxLen := by
  induction h with
  | nil A => intro s hs; rw [namesL] at hs; cases hs
  | mk b off ts Af cf hF hlt hc hk ih =>
    intro s hs
    obtain ⟨t, ht, hs⟩ := namesL_mem hs
    obtain ⟨r, hr⟩ := List.getElem?_of_mem ht
    rw [namesT_eq] at hs
    rcases List.mem_append.1 hs with hs | hs
    · split at hs
      · rw [List.mem_singleton.1 hs]; exact (hc r t hr).2.1.2.2
      · cases hs
    · split at hs
      · exact ih r t hr s hs
      · cases hs
theorem namesT_len {F : Nat → Prop} {w : World} {A : Option Addr} {t : Ty} (hn : t.nm.length ≤ maxLen) (h : Ty.At F w A t.ks) : ∀ s ∈ namesT t, s.length ≤ maxLen := by
  intro s hs
  rw [namesT_eq] at hs
  rcases List.mem_append.1 hs with hs | hs
  · split at hs
    · rw [List.mem_singleton.1 hs]; exact hn
    · cases hs
  · split at hs
    · exact namesL_len h s hs
    · cases hs
def seenS (L : List (List UInt8)) : List UInt8 → Option Value := fun s => if s ∈ L then some (.bool true) else none
/-- What has come, in memory. -/
structure Ch (B : Nat) (Z : Nat → Prop) (g gs sm gb bm N : Nat) (D : List UInt8 → Option Dc) (e0 : Addr) (L : List (List UInt8)) (w : World) : Prop where
  ls : IsS B (fun k => Z k ∨ k = sm) g L w
  mp : SMap w sm L.length (seenS L)
  hsm : ¬ Z sm
  vs_ : w.cell? ⟨gs, 0, none⟩ = some (.map (some sm))
  vb : w.cell? ⟨gb, 0, none⟩ = some (.map (some bm))
  bk : Bk w bm N D e0
  in_ : Z gs ∧ Z gb ∧ Z bm ∧ Z 0 ∧ Z 1 ∧ Z 4
section
variable {B : Nat} {Z Z' : Nat → Prop} {g gs sm gb bm N : Nat} {D : List UInt8 → Option Dc} {e0 : Addr} {L : List (List UInt8)} {w w' : World}
theorem Ch.lt (h : Ch B Z g gs sm gb bm N D e0 L w) {k : Nat} (hk : Z k) : k < w.heap.size := by
  obtain ⟨A, n, c, h1⟩ := h.ls
  exact (h1.off k (.inl hk)).1
theorem Ch.bel (h : Ch B Z g gs sm gb bm N D e0 L w) (hb : Below w.heap.size w w') (hZ : ∀ k, Z k → Z' k) (hN : ∀ k, Z' k → Z k ∨ (w.heap.size ≤ k ∧ k < w'.heap.size)) : Ch B Z' g gs sm gb bm N D e0 L w' where
  ls := h.ls.bel hb fun k hk => by
    rcases hk with hk | hk
    · rcases hN k hk with h1 | h1
      · exact .inl (.inl h1)
      · exact .inr h1
    · exact .inl (.inr hk)
  mp := h.mp.bel hb
  hsm := fun hk => by
    rcases hN sm hk with h1 | h1
    · exact h.hsm h1
    · exact absurd h.mp.lt (by omega)
  vs_ := (hb.cell (World.block_lt_of_cell? w _ h.vs_)).trans h.vs_
  vb := (hb.cell (World.block_lt_of_cell? w _ h.vb)).trans h.vb
  bk := h.bk.bel hb
  in_ := ⟨hZ _ h.in_.1, hZ _ h.in_.2.1, hZ _ h.in_.2.2.1, hZ _ h.in_.2.2.2.1, hZ _ h.in_.2.2.2.2.1, hZ _ h.in_.2.2.2.2.2⟩
theorem Ch.less (h : Ch B Z' g gs sm gb bm N D e0 L w) (hZ : ∀ k, Z k → Z' k) (hi : Z gs ∧ Z gb ∧ Z bm ∧ Z 0 ∧ Z 1 ∧ Z 4) : Ch B Z g gs sm gb bm N D e0 L w :=
  ⟨h.ls.mono fun k hk => hk.imp (hZ k) id, h.mp, fun hk => h.hsm (hZ _ hk), h.vs_, h.vb, h.bk, hi⟩
/-- Was it seen? -/
theorem Ch.look (h : Ch B Z g gs sm gb bm N D e0 L w) (x : List UInt8) (hx : x.length ≤ maxLen) :
    (Instr.lookup 62 (.map (some sm)) (.string (str x)) false).run Tryz.prog w = .ok (.bool (decide (x ∈ L))) w := by
  have hz : (zeroValue 4).run Tryz.prog w = .ok (.bool false) w := by kernel_rfl
  rw [h.mp.look Tryz.underlying62 hz false x hx]
  unfold seenS
  by_cases e : x ∈ L
  · simp [e]
  · simp [e]
/-- One more. -/
theorem Ch.add (h : Ch B Z g gs sm gb bm N D e0 L w) (x : List UInt8) (hx : x.length ≤ maxLen) (hn : L.length < 1000000) :
    ∃ w3, (Instr.mapUpdate 62 (.map (some sm)) (.string (str x)) (.bool true)).run Tryz.prog w = .ok () w3 ∧ ∃ A n c, w3.cell? ⟨g, 0, none⟩ = some (.slice A n c) ∧ ∀ w4, w3.alloc (.cells #[.string (str x)] 9) = w4 →
      ∃ A' c' w5, (Builtin.append_ #[32, 32] 32 #[.slice A n c, .slice (some ⟨w3.heap.size, 0, none⟩) 1 1]).run Tryz.prog w4 = .ok (.slice A' (n + 1) c') w5 ∧
        w5.cell? ⟨g, 0, none⟩ = some (.slice A n c) ∧ w5.frozen? ⟨g, 0, none⟩ = false ∧ Ch B Z g gs sm gb bm N D e0 (L ++ [x]) (w5.setCell ⟨g, 0, none⟩ (.slice A' (n + 1) c')) ∧ Off (fun k => ¬ Z k) w (w5.setCell ⟨g, 0, none⟩ (.slice A' (n + 1) c')) := by
  obtain ⟨w3, hr, h1, h2⟩ := h.mp.put Tryz.underlying62 x hx (.bool true) hn
  have hl3 := h.ls.off h2 fun k _ e => .inr e
  obtain ⟨A, n, c, hs⟩ := hl3
  have v0 := hs.at_.cell 0
  simp only [List.getElem?_toArray, List.getElem?_cons_zero] at v0
  refine ⟨w3, hr, A, n, c, v0, fun w4 h4 => ?_⟩
  obtain ⟨A', c', w5, hrun, v1, vf, hS, hO⟩ := hs.app x (by have := hs.len; omega) h4
  have o2 : Off (fun k => ¬ Z k) w w3 := h2.mono fun k _ e hk => h.hsm (e ▸ hk)
  have o5 : Off (fun k => ¬ Z k) w3 (w5.setCell ⟨g, 0, none⟩ (.slice A' (n + 1) c')) := hO.mono fun k _ e hk => e (.inl hk)
  have oo := o2.trans o5
  refine ⟨A', c', w5, hrun, v1, vf, ⟨hS, ?_, h.hsm, ?_, ?_, ⟨?_, ?_, h.bk.num.offz oo (fun e => e h.in_.2.2.2.2.1) (fun e => e h.in_.2.2.2.2.2)⟩, h.in_⟩, oo⟩
  · have h6 : SMap (w5.setCell ⟨g, 0, none⟩ (.slice A' (n + 1) c')) sm (L.length + 1) (fun y => if y = x then some (.bool true) else seenS L y) := h1.same (hO.block sm h1.lt (fun e => e (.inr rfl)))
    have e1 : (fun y => if y = x then some (Value.bool true) else seenS L y) = seenS (L ++ [x]) := by
      funext y
      unfold seenS
      by_cases e : y = x
      · simp [e]
      · simp [e]
    rw [List.length_append]
    rw [e1] at h6
    exact h6
  · exact (World.cell?_of_block (a := ⟨gs, 0, none⟩) (oo.block gs (h.lt h.in_.1) (fun e => e h.in_.1))).trans h.vs_
  · exact (World.cell?_of_block (a := ⟨gb, 0, none⟩) (oo.block gb (h.lt h.in_.2.1) (fun e => e h.in_.2.1))).trans h.vb
  · exact h.bk.map.same (oo.block bm (h.lt h.in_.2.2.1) (fun e => e h.in_.2.2.1))
  · exact (World.cell?_of_block (a := ⟨0, 0, none⟩) (oo.block _ (h.lt h.in_.2.2.2.1) (fun e => e h.in_.2.2.2.1))).trans h.bk.err
end
set_option maxRecDepth 100000 in
set_option maxHeartbeats 8000000 in
theorem come_any (B : Nat) (Z : Nat → Prop) (g gs sm gb bm N : Nat) (D : List UInt8 → Option Dc) (e0 : Addr) (L : List (List UInt8)) (w : World) (H : Ch B Z g gs sm gb bm N D e0 L w) (vs : List (List UInt8)) (vA : Option Addr) (vn vc : Nat) (hvn : vs.length = vn) (hvx : vn ≤ 9223372036854775807) (hV : SsAt Z w vA vs) (t : Ty) (A : Option Addr) (c : Nat) (hnl : t.nm.length ≤ maxLen) (hsm : sml t = true) (hT : Ty.At Z w A t.ks) (hl : L.length + (namesT t).length < 1000000) :
    Calls Tryz.prog 19 #[t.val A c, .slice vA vn vc, .pointer (some ⟨gb, 0, none⟩), .pointer (some ⟨gs, 0, none⟩), .pointer (some ⟨g, 0, none⟩)] w fun e w' =>
      e = .returned (if keptB D vs t = true then .nilIface else errv e0) ∧ Ch B Z g gs sm gb bm N D e0 (if keptB D vs t = true then comeL L (namesT t) else L) w' ∧ Off (fun k => ¬ Z k) w w' := by
  have hkm : t.ks.length ≤ maxLen := by
    rw [sml_eq, Bool.and_eq_true] at hsm
    have := of_decide_eq_true hsm.1
    unfold maxLen; omega
  obtain ⟨q, hq⟩ : ∃ q, w.heap.size = q := ⟨_, rfl⟩
  obtain ⟨k, nm, n, ks⟩ := t
  have hT : Ty.At Z w A ks := hT
  obtain ⟨kl, hkl⟩ : ∃ kl, ks.length = kl := ⟨_, rfl⟩
  obtain ⟨w1, hw1⟩ : ∃ W, w.alloc (.cells #[.int .u8 (k : Int), .string (str nm), .int .i64 n, .slice A kl c] 24) = W := ⟨_, rfl⟩
  have hb1 : Below w.heap.size w w1 := by rw [← hw1]; exact (Below.refl _ _).alloc (Nat.le_refl _) _
  have hB1 : Blk w1 w.heap.size 24 #[.int .u8 (k : Int), .string (str nm), .int .i64 n, .slice A kl c] := by rw [← hw1]; exact Blk.new _ _ _
  rw [hq] at hB1
  have hZl : ∀ k, Z k → k < w.heap.size := fun k hk => H.lt hk
  have hC1 := kept_any bm N D e0 vs vA vn vc hvn hvx (.node k nm n ks) A c w1 hnl hkm (H.bk.bel hb1) ((hV.off (Off.of_new hb1 (fun k => ¬ Z k)) fun b h1 h2 => h2 h1).mono fun b h => Nat.lt_of_lt_of_le (hZl b h) hb1.size) ((hT.bel hb1).mono fun b h => Nat.lt_of_lt_of_le (hZl b h) hb1.size)
  obtain ⟨kb, hkb⟩ : ∃ b, keptB D vs (.node k nm n ks) = b := ⟨_, rfl⟩
  rw [hkb] at hC1 ⊢
  obtain ⟨ev, hev⟩ : ∃ v, (if kb = true then Value.nilIface else errv e0) = v := ⟨_, rfl⟩
  rw [hev] at hC1 ⊢
  change Calls Tryz.prog 20 #[.agg #[.map (some bm)], .agg #[.int .u8 (k : Int), .string (str nm), .int .i64 n, .slice A ks.length c], .slice vA vn vc] w1 (fun e w' => e = .returned ev ∧ Below w1.heap.size w1 w') at hC1
  rw [hkl] at hC1
  show Calls Tryz.prog 19 #[.agg #[.int .u8 (k : Int), .string (str nm), .int .i64 n, .slice A ks.length c], .slice vA vn vc, .pointer (some ⟨gb, 0, none⟩), .pointer (some ⟨gs, 0, none⟩), .pointer (some ⟨g, 0, none⟩)] w fun e w' => e = .returned ev ∧ Ch B Z g gs sm gb bm N D e0 (if kb = true then comeL L (namesT (.node k nm n ks)) else L) w' ∧ Off (fun k => ¬ Z k) w w'
  rw [hkl]
  have hns := namesT_len (t := .node k nm n ks) hnl hT
  have hC2 : ∀ W, Below w1.heap.size w1 W → Calls Tryz.prog 21 #[.agg #[.int .u8 (k : Int), .string (str nm), .int .i64 n, .slice A kl c]] W fun e w' => (∃ A' n' c', e = .returned (.slice A' n' c') ∧ (namesT (.node k nm n ks)).length = n' ∧ SsAt (fun k => W.heap.size ≤ k) w' A' (namesT (.node k nm n ks))) ∧ Below W.heap.size W w' := fun W hW => by
    have h := names_any (.node k nm n ks) hsm A c W (((show TyK A ks Z w from hT).more (Y := fun k => k < w.heap.size) hZl (Off.of_new (hb1.trans (hW.mono hb1.size)) _)).more (fun k h => Nat.lt_of_lt_of_le h (hb1.trans (hW.mono hb1.size)).size) (Off.refl _ _)) (by omega)
    change Calls Tryz.prog 21 #[.agg #[.int .u8 (k : Int), .string (str nm), .int .i64 n, .slice A ks.length c]] W (fun e w' => (∃ A' n' c', e = .returned (.slice A' n' c') ∧ (namesT (.node k nm n ks)).length = n' ∧ SsAt (fun k => W.heap.size ≤ k) w' A' (namesT (.node k nm n ks))) ∧ Below W.heap.size W w') at h
    rw [hkl] at h
    exact h
  obtain ⟨nt, hnt⟩ : ∃ nt, namesT (.node k nm n ks) = nt := ⟨_, rfl⟩
  rw [hnt] at hl hns hC2 ⊢
  have HX : Hid (∀ W, Below w1.heap.size w1 W → W.cell? ⟨q, 0, none⟩ = some (.int .u8 (k : Int)) ∧ W.cell? ⟨q, 1, none⟩ = some (.string (str nm)) ∧ W.cell? ⟨q, 2, none⟩ = some (.int .i64 n) ∧ W.cell? ⟨q, 3, none⟩ = some (.slice A kl c)) := Lib.hid fun W hW => by
    have h := hB1.below hW hB1.lt
    exact ⟨h.cell 0, h.cell 1, h.cell 2, h.cell 3⟩
  have HC1 := Lib.hid hC1
  have HC2 := Lib.hid hC2
  have HI := Lib.hid (And.intro H (And.intro hb1 (And.intro hl (And.intro hns hev))))
  obtain ⟨x0, x1, x2, x3⟩ := HX.out w1 (Below.refl _ _)
  have xb : w1.cell? ⟨gb, 0, none⟩ = some (.map (some bm)) := (hb1.cell (World.block_lt_of_cell? w _ H.vb)).trans H.vb
  have HW := Lib.hid (And.intro hw1 hq)
  have hif := isIfaceErr
  clear H hT hnl hsm hkm hkb hw1 hb1 hB1 hC1 hC2 hq hkl hnt hns hl hev hZl hvn hvx hV
  go_enter Tryz.func19, Tryz.ntmps19
  go_upto_region 1 with fail
  (try rw [HW.out.1])
  (try rw [HW.out.2])
  clear HW
  go_wp2_with fail
  refine HC1.out.mono ?_
  rintro e wk ⟨rfl, hbk⟩
  clear HC1 x0 x1 x2 x3 xb
  cases kb with
  | false =>
    obtain rfl : Value.iface 161 (.pointer (some e0)) = ev := by simpa [errv] using HI.out.2.2.2.2
    have hww : Below w.heap.size w wk := HI.out.2.1.trans (hbk.mono HI.out.2.1.size)
    have HP : Hid (Ch B Z g gs sm gb bm N D e0 L wk ∧ Off (fun k => ¬ Z k) w wk) := Lib.hid ⟨HI.out.1.bel hww (fun _ h => h) (fun _ h => .inl h), Off.of_new hww _⟩
    clear hbk hww HC2
    go_wp2_with fail
    go_ret
    exact ⟨rfl, HP.out⟩
  | true =>
    obtain rfl : Value.nilIface = ev := by simpa using HI.out.2.2.2.2
    obtain ⟨x0, x1, x2, x3⟩ := HX.out wk hbk
    have HC3 := Lib.hid (HC2.out wk hbk)
    have HKB := Lib.hid hbk
    clear HC2 hbk
    go_wp2_with fail
    refine HC3.out.mono ?_
    rintro e w2 ⟨⟨nA, nn, nc, rfl, hnn, hrow⟩, hb2⟩
    have hww : Below w.heap.size w wk := HI.out.2.1.trans (HKB.out.mono HI.out.2.1.size)
    have hw2 : Below w.heap.size w w2 := hww.trans (hb2.mono hww.size)
    obtain ⟨Y, hY⟩ : ∃ Y : Nat → Prop, Y = fun k => Z k ∨ (w.heap.size ≤ k ∧ k < w2.heap.size) := ⟨_, rfl⟩
    have hCh : Ch B Y g gs sm gb bm N D e0 L w2 := HI.out.1.bel hw2 (fun k h => by rw [hY]; exact .inl h) (fun k h => by rw [hY] at h; exact h)
    have hrow2 : SsAt Y w2 nA nt := fun r s hs => by
      obtain ⟨b, off, e, h1, h2, h3⟩ := hrow r s hs
      exact ⟨b, off, e, by rw [hY]; exact .inr ⟨Nat.le_trans hww.size h1, h2⟩, h2, h3⟩
    have HE : Hid (∀ W, Off (fun k => ¬ Y k) w2 W → Off (fun k => ¬ Z k) w W) := Lib.hid fun W h => (Off.of_new hw2 (fun k => ¬ Z k)).then h fun j _ hj hz => hj (by rw [hY]; exact .inl hz)
    have HZY : Hid (∀ k, Z k → Y k) := Lib.hid fun k h => by rw [hY]; exact .inl h
    have HS := Lib.hid (And.intro hCh (And.intro hrow2 hnn))
    have hnx : nn ≤ 1000000 := by have := HI.out.2.2.1; rw [hnn] at this; omega
    clear hY hCh hrow hrow2 hnn hww hw2 hb2 HC3 HKB x0 x1 x2 x3 HX
    go_wp2_with fail
    go_loopw [23] (fun v23 wr => ∃ (i : Nat), i ≤ nn ∧ v23 = .int .i64 (i : Int) ∧ Hid (Ch B Y g gs sm gb bm N D e0 (comeL L (nt.take i)) wr ∧ Off (fun k => ¬ Y k) w2 wr)) (fun v23 _ => nn - (intOf v23).toNat)
    case atStart => exact ⟨0, Nat.zero_le _, rfl, Lib.hid ⟨by rw [List.take_zero]; exact HS.out.1, Off.refl _ _⟩⟩
    case round =>
      obtain ⟨i, hi, rfl, HJ⟩ := hrel
      by_cases hli : i < nn
      · have hd : decide ((i : Int) < (nn : Int)) = true := by simpa using hli
        obtain ⟨x, hx⟩ : ∃ x, nt[i]? = some x := ⟨_, List.getElem?_eq_getElem (by rw [HS.out.2.2]; exact hli)⟩
        obtain ⟨b, o, e, _, _, z0⟩ := (HS.out.2.1.off HJ.out.2 fun b h1 h2 => h2 h1) i x hx
        subst e
        have hxl := HI.out.2.2.2.1 x (List.mem_of_getElem? hx)
        have HNX := Lib.hid (comeL_next (L := L) hx)
        have HO := Lib.hid (own_any x wr)
        obtain ⟨on, ob, hob⟩ : ∃ a b, ownN x = (a, b) := ⟨_, _, rfl⟩
        rw [hob] at HO
        have HOB := Lib.hid hob
        have hll : (comeL L (nt.take i)).length < 1000000 := by
          have h1 := comeL_le (nt.take i) L
          have h2 := HI.out.2.2.1
          have h3 := List.length_take_le i nt
          have h4 := HS.out.2.2
          have h5 : (nt.take i).length ≤ nt.length := by rw [List.length_take]; omega
          omega
        obtain ⟨L1, hL1⟩ : ∃ l, comeL L (nt.take i) = l := ⟨_, rfl⟩
        rw [hL1] at hll
        have HL := Lib.hid hL1
        have HX := Lib.hid (And.intro hxl hll)
        clear hL1 hxl hll hx hob
        have HCH : Hid (Ch B Y g gs sm gb bm N D e0 L1 wr) := Lib.hid (by rw [← HL.out]; exact HJ.out.1)
        have ys := HCH.out.vs_
        cases ob with
        | true =>
          have HN : Hid (Ch B Y g gs sm gb bm N D e0 (comeL L (nt.take (i + 1))) wr) := Lib.hid (by rw [HNX.out, HL.out]; unfold come1; rw [HOB.out]; exact HCH.out)
          go_wp2_with fail
          refine HO.out.mono ?_
          rintro e w4 ⟨rfl, rfl⟩
          clear HO HNX HL HX HOB HCH z0 ys
          go_wp2_with fail
          go_roundw
          case rel => exact ⟨i + 1, by omega, by go_num, Lib.hid ⟨HN.out, HJ.out.2⟩⟩
          case measure => simp [intOf]; omega
        | false =>
          have hlk := HCH.out.look x HX.out.1
          by_cases hm : x ∈ L1
          · rw [decide_eq_true hm] at hlk
            have HN : Hid (Ch B Y g gs sm gb bm N D e0 (comeL L (nt.take (i + 1))) wr) := Lib.hid (by rw [HNX.out, HL.out]; unfold come1; rw [decide_eq_true hm, Bool.or_true]; exact HCH.out)
            clear hm
            go_wp2_with fail
            refine HO.out.mono ?_
            rintro e w4 ⟨rfl, rfl⟩
            clear HO HNX HL HX HOB HCH z0
            go_wp2_with fail
            go_roundw
            case rel => exact ⟨i + 1, by omega, by go_num, Lib.hid ⟨HN.out, HJ.out.2⟩⟩
            case measure => simp [intOf]; omega
          · rw [decide_eq_false hm] at hlk
            obtain ⟨w3, hput, lA, ln, lc, v0, hadd⟩ := HCH.out.add x HX.out.1 HX.out.2
            obtain ⟨w4, hw4⟩ : ∃ W, w3.alloc (.cells #[.string (str x)] 9) = W := ⟨_, rfl⟩
            obtain ⟨lA', lc', w5, hrun, v1, vf, hCh2, ho2⟩ := hadd w4 hw4
            obtain ⟨w6, hw6⟩ : ∃ W, w5.setCell ⟨g, 0, none⟩ (.slice lA' (ln + 1) lc') = W := ⟨_, rfl⟩
            rw [hw6] at hCh2 ho2
            have HN : Hid (Ch B Y g gs sm gb bm N D e0 (comeL L (nt.take (i + 1))) w6 ∧ Off (fun k => ¬ Y k) w2 w6) := Lib.hid ⟨by rw [HNX.out, HL.out]; unfold come1; rw [HOB.out, decide_eq_false hm]; exact hCh2, HJ.out.2.trans ho2⟩
            have hal := hw4
            have HW6 := Lib.hid hw6
            clear hm hadd hCh2 ho2 hw6 hw4
            go_wp2_with fail
            refine HO.out.mono ?_
            rintro e w7 ⟨rfl, rfl⟩
            clear HO HNX HL HX HOB HCH z0 HJ
            go_upto_region 11 with (at_builtin; refine wpList_app rfl _ _ 32 rfl _ _ _ _ rfl rfl hrun ?_)
            (try rw [HW6.out])
            clear hlk hput v0 v1 vf hrun hal ys
            go_wp2_with fail
            go_roundw
            case rel => exact ⟨i + 1, by omega, by go_num, HN⟩
            case measure => simp [intOf]; omega
      · obtain rfl : nn = i := by omega
        have hd : decide ((nn : Int) < (nn : Int)) = false := by simp
        have HP : Hid (Ch B Z g gs sm gb bm N D e0 (comeL L nt) wr ∧ Off (fun k => ¬ Z k) w wr) := Lib.hid ⟨by
          have h := HJ.out.1
          rw [List.take_of_length_le (by rw [HS.out.2.2]; exact Nat.le_refl _)] at h
          exact h.less HZY.out HI.out.1.in_, HE.out wr HJ.out.2⟩
        go_wp2_with fail
        go_ret
        exact ⟨rfl, HP.out⟩
end Go.Proofs.YtadogebhkldeiaaGreatDoor
