/- Write, walked. -/
import Derived.Test.YtiemfhncadcemaaJ
namespace Go.Proofs.Ytiemfhncadcemaa
open Go.RowKit Dsk

set_option maxHeartbeats 400000 in
theorem write_nil (i : Int) (v : Value) (w : World) : Calls Try.prog 34 #[.pointer none, .int .i64 i, v] w fun e w' => e = .returned (.int .i64 2) ∧ w = w' := by
  go_enter Try.func34, Try.ntmps34
  go_wp2_with (go_at_call 45; refine (refuses_nil _ _).mono ?_; rintro e w' ⟨rfl, rfl⟩)
  go_ret
  exact ⟨rfl, rfl⟩

theorem write_refused (g n armed steps : Nat) (A : Option Addr) (rv lv v : Value) (dead : Bool) (i r : Int) (w : World) (h : Head w g A n rv lv dead armed steps) (hr : refuse dead n i = r) (h0 : r ≠ 0) :
    Calls Try.prog 34 #[.pointer (some ⟨g, 0, none⟩), .int .i64 i, v] w fun e w' => e = .returned (.int .i64 r) ∧ w = w' := by
  have H := refuses_hd g n armed steps A rv lv dead i w h
  rw [hr] at H
  have HR := Lib.hid H
  have hd : (r != 0) = true := by simpa using h0
  clear H h hr
  go_enter Try.func34, Try.ntmps34
  go_wp2_with (go_at_call 45; refine HR.out.mono ?_; rintro e w' ⟨rfl, rfl⟩)
  go_ret
  exact ⟨rfl, rfl⟩

set_option maxHeartbeats 400000 in
theorem write_long (g n armed steps len cap : Nat) (A B : Option Addr) (rv lv : Value) (dead : Bool) (i : Int) (w : World) (h : Head w g A n rv lv dead armed steps) (hr : refuse dead n i = 0) (hl : 256 < len) :
    Calls Try.prog 34 #[.pointer (some ⟨g, 0, none⟩), .int .i64 i, .slice B len cap] w fun e w' => e = .returned (.int .i64 1) ∧ w = w' := by
  have H := refuses_hd g n armed steps A rv lv dead i w h
  rw [hr] at H
  have HR := Lib.hid H
  have HF := Lib.hid (fill_no B len cap 256 w (.inl (by omega)))
  clear H h hr
  go_enter Try.func34, Try.ntmps34
  go_wp2_with (first
    | (go_at_call 45; refine HR.out.mono ?_; rintro e w' ⟨rfl, rfl⟩)
    | (go_at_call 47; refine HF.out.mono ?_; rintro e w' ⟨rfl, rfl⟩))
  go_ret
  exact ⟨rfl, rfl⟩

/-- What Write answers, and what it does, where the bytes fit. -/
def writeE (D : DS) (i : Int) (b : List UInt8) : Int := if refuse D.dead D.S.length i = 0 then (if b.length ≤ 256 then stepE (pushD D i.toNat (filled b 256)) else 1) else refuse D.dead D.S.length i
def writeD (D : DS) (i : Int) (b : List UInt8) : DS := if refuse D.dead D.S.length i = 0 ∧ b.length ≤ 256 then stepD (pushD D i.toNat (filled b 256)) else D

set_option maxHeartbeats 1000000 in
theorem write_fits (g gl gi len cap s : Nat) (B : Option Addr) (rv : Value) (bs : List UInt8) (D : DS) (E : Nat → Prop) (w : World) (h : Dk w E g gl gi rv D) (hEl : ∀ k, E k → k < w.heap.size) (hd : D.dead = false) (hs : s < D.S.length) (hlen : bs.length = len) (hl : len ≤ 256) (hB : Bytes w B bs)
    (hP : D.P.length < 1000000) (hS : D.steps < 1000000000) :
    Calls Try.prog 34 #[.pointer (some ⟨g, 0, none⟩), .int .i64 (s : Int), .slice B len cap] w fun e w' => e = .returned (.int .i64 (stepE (pushD D s (filled bs 256)))) ∧
      (∃ rv', Dk w' (fun k => E k ∨ k = w.heap.size) g gl gi rv' (stepD (pushD D s (filled bs 256))) ∧ (rv'.ownBlock = rv.ownBlock ∨ ∃ r, rv'.ownBlock = some r ∧ w.heap.size ≤ r ∧ r < w'.heap.size)) ∧ Off (own4 g gl gi rv) w w' ∧ w.heap.size < w'.heap.size := by
  have H := refuses_hd g _ _ _ _ _ _ _ (s : Int) w h.hd
  have e0 : refuse D.dead D.S.length (s : Int) = 0 := by rw [hd]; simp [refuse]; omega
  rw [e0] at H
  have HR := Lib.hid H
  have HF := Lib.hid (fill_okL B len cap 256 bs w hlen hl (by decide) hB)
  have hf : (filled bs 256).length = 256 := filled_length bs 256 (by omega)
  generalize filled bs 256 = fs at *
  have HK := Lib.hid h
  have HE := Lib.hid hEl
  have HFS := Lib.hid hf
  have HP := Lib.hid hP
  have HS := Lib.hid hS
  have hn := h.ok.hi
  clear H e0 h hEl hB hlen hf hd hP hS
  go_enter Try.func34, Try.ntmps34
  go_wp2_with (go_at_call 45; refine HR.out.mono ?_; rintro e w' ⟨rfl, rfl⟩)
  refine HF.out.mono ?_
  rintro e w1 ⟨rfl, hb1, hw1⟩
  have hsz1 : w.heap.size < w1.heap.size := hb1.lt
  have hK1 : Dk w1 (fun k => E k ∨ k = w.heap.size) g gl gi rv D :=
    (HK.out.same hw1.size (fun k hk _ => hw1.block k hk)).mono _ (fun k hk ho => by have := (HK.out.own_lt k ho).1; omega)
  have hKa : Dk (w1.alloc (.cells #[.int .i64 (s : Int), .slice (some ⟨w.heap.size, 0, none⟩) 256 256] 79)) (fun k => E k ∨ k = w.heap.size) g gl gi rv D := hK1.same (by simp) (fun k hk _ => Below.heap_alloc _ _ _ hk)
  have hba : Blk (w1.alloc (.cells #[.int .i64 (s : Int), .slice (some ⟨w.heap.size, 0, none⟩) 256 256] 79)) w1.heap.size 79 #[.int .i64 (s : Int), .slice (some ⟨w.heap.size, 0, none⟩) 256 256] := Blk.new _ _ _
  have hsec : Sec (w1.alloc (.cells #[.int .i64 (s : Int), .slice (some ⟨w.heap.size, 0, none⟩) 256 256] 79)) (fun k => E k ∨ k = w.heap.size) (.slice (some ⟨w.heap.size, 0, none⟩) 256 256) fs :=
    Sec.of_blk (hb1.alloc _) (.inr rfl) (by rw [HFS.out]; decide) 256 HFS.out
  obtain ⟨v', w2, hrun, hp2, hg2, ho2⟩ := Pend.push (T := 60) hKa.pend (by kernel_rfl) (by kernel_rfl) (s, fs) _ hsec w1.heap.size (hba.cell 0) (hba.cell 1) (fun k hk => (hKa.e4 k hk).1) HP.out
  have hEl : ∀ k, (E k ∨ k = w.heap.size) → k < (w1.alloc (.cells #[.int .i64 (s : Int), .slice (some ⟨w.heap.size, 0, none⟩) 256 256] 79)).heap.size := fun k hk => by
    rw [World.size_alloc]
    rcases hk with hk | rfl
    · have := HE.out k hk; omega
    · omega
  have hK4 := hKa.pushed (b := fs) hs HFS.out hp2 hg2 ho2 hEl
  have hsz2 := hg2.size
  rw [World.size_alloc] at hsz2
  have hgl := hKa.head.lt
  have hgil := hKa.last.lt
  have ng : ∀ k, (k = g ∨ k = gi) → some k ≠ rv.ownBlock := fun k hk e => by
    have := (HK.out.e4 k e.symm).2
    rcases hk with rfl | rfl
    · exact this.1 rfl
    · exact this.2.2 rfl
  have h2 : Blk w2 g _ _ := hKa.head.grown hg2 (ng g (.inl rfl))
  have hl2 : Lasts w2 gi D.S.length D.P := hKa.last.same (hg2.block gi hgil (ng gi (.inr rfl)))
  have hgg : g ≠ gi := HK.out.n2
  obtain ⟨A', c', ev, _, _⟩ := hp2.shape
  have hlen2 : (D.P ++ [(s, fs)]).length = D.P.length + 1 := by simp
  rw [hlen2] at ev
  have hPl := HP.out
  have hbel : Off (own4 g gl gi rv) w ((w2.setCell ⟨g, 1, none⟩ v').setCell ⟨gi, s, none⟩ (.int .i64 ((D.P.length : Int) + 1))) :=
    (((Off.of_new hw1 _).then (Off.alloc (own4 g gl gi rv) w1 _) (fun _ _ => id)).then (Off.of_grown hg2) (fun k _ hk => .inr (.inr (.inr hk)))).then
      (((Off.setc w2 g 1 v').mono (G := own4 g gl gi rv) (fun k _ e => .inl e)).trans ((Off.setc _ gi s _).mono (fun k _ e => .inr (.inr (.inl e))))) (fun _ _ => id)
  have hrow : v'.ownBlock = rv.ownBlock ∨ ∃ r, v'.ownBlock = some r ∧ w.heap.size ≤ r ∧ r < w2.heap.size := by
    rcases ho2 with ho2 | ho2
    · exact .inl ho2
    · rw [World.size_alloc] at ho2
      exact .inr ⟨_, ho2, by omega, hp2.lt _ ho2⟩
  subst ev
  have g1 : w.cell? ⟨g, 1, none⟩ = some rv := HK.out.hd.c1
  have g1' : w1.cell? ⟨g, 1, none⟩ = some rv := hK1.hd.c1
  have c20 := h2.cell 0
  have c21 := h2.cell 1
  have c22 := h2.cell 2
  have f2 := h2.frozen 1
  have l2 := hl2.at_ hs
  have lf2 := hl2.free s
  simp only [List.getElem?_toArray, List.getElem?_cons_zero, List.getElem?_cons_succ] at c20 c21 c22
  have hK5 := hK4.drew
  have HS4 := Lib.hid (step_hd g _ _ _ _ _ _ _ _ hK5.hd HS.out hK5.ok.armed)
  have HK4 := Lib.hid hK5.step_
  have HOF := Lib.hid (stepW_off ((w2.setCell ⟨g, 1, none⟩ (.slice A' (D.P.length + 1) c')).setCell ⟨gi, s, none⟩ (.int .i64 ((D.P.length : Int) + 1))).drew g (pushD D s fs).armed (pushD D s fs).steps)
  have HBEL := Lib.hid hbel
  have HROW := Lib.hid hrow
  have HRUN := Lib.hid hrun
  have hi : (0 : Int) ≤ (s : Int) := by omega
  clear hK1 hKa hba hsec hrun hp2 hg2 ho2 hEl hK4 hK5 h2 hl2 hlen2 hbel hrow HR HF hb1 hw1 ng
  go_wp2_with (at_builtin; refine wpList_app rfl _ _ 60 rfl _ _ _ _ rfl rfl HRUN.out ?_; clear HRUN)
  go_region
  go_wp2_with fail
  refine HS4.out.mono ?_
  rintro e w' ⟨rfl, rfl⟩
  go_wp2_with fail
  go_ret
  refine ⟨rfl, ⟨_, HK4.out, ?_⟩, ?_, ?_⟩
  · rcases HROW.out with h | ⟨r, h1, h2, h3⟩
    · exact .inl h
    · exact .inr ⟨r, h1, h2, Nat.lt_of_lt_of_le h3 (by rw [stepW_size]; simp [World.setCell])⟩
  · exact (HBEL.out.trans (Off.drew _ _)).trans (HOF.out.mono fun k _ e => .inl e)
  · rw [stepW_size]
    show w.heap.size < ((w2.setCell _ _).setCell _ _).heap.size
    simp [World.setCell]; omega

theorem Disk.write_no (g len cap : Nat) (B : Option Addr) (F : Nat → Prop) (D : DS) (i : Int) (bs : List UInt8) (w : World) (h : Disk w F g D) (hlen : bs.length = len) (hn : ¬ (refuse D.dead D.S.length i = 0 ∧ len ≤ 256)) :
    Calls Try.prog 34 #[.pointer (some ⟨g, 0, none⟩), .int .i64 i, .slice B len cap] w fun e w' => e = .returned (.int .i64 (writeE D i bs)) ∧ w = w' := by
  obtain ⟨E, gl, gi, rv, hk, h1, h2, h3⟩ := h
  unfold writeE
  by_cases hr : refuse D.dead D.S.length i = 0
  · rw [if_pos hr, if_neg (by rw [hlen]; exact fun e => hn ⟨hr, e⟩)]
    exact write_long g _ _ _ len cap _ B _ _ _ i w hk.hd hr (by have := fun e => hn ⟨hr, e⟩; omega)
  · rw [if_neg hr]
    exact write_refused g _ _ _ _ _ _ _ _ i _ w hk.hd rfl hr

theorem writeD_no {D : DS} {i : Int} {bs : List UInt8} (hn : ¬ (refuse D.dead D.S.length i = 0 ∧ bs.length ≤ 256)) : writeD D i bs = D := by unfold writeD; rw [if_neg hn]

theorem Disk.write_ (g len cap : Nat) (B : Option Addr) (F : Nat → Prop) (D : DS) (i : Int) (bs : List UInt8) (w : World) (h : Disk w F g D) (hlen : bs.length = len) (hB : Bytes w B bs) (hP : D.P.length < 1000000) (hS : D.steps < 1000000000) :
    Calls Try.prog 34 #[.pointer (some ⟨g, 0, none⟩), .int .i64 i, .slice B len cap] w fun e w' => e = .returned (.int .i64 (writeE D i bs)) ∧ Disk w' (grow F w w') g (writeD D i bs) ∧ Off F w w' := by
  by_cases hn : refuse D.dead D.S.length i = 0 ∧ len ≤ 256
  · obtain ⟨hr, hl⟩ := hn
    obtain ⟨hd, s, rfl, hs⟩ := refuse_zero hr
    obtain ⟨E, gl, gi, rv, hk, h1, h2, h3⟩ := h
    have e1 : writeE D s bs = stepE (pushD D s (filled bs 256)) := by unfold writeE; rw [if_pos hr, if_pos (by omega), Int.toNat_natCast]
    have e2 : writeD D s bs = stepD (pushD D s (filled bs 256)) := by unfold writeD; rw [if_pos ⟨hr, by omega⟩, Int.toNat_natCast]
    rw [e1, e2]
    refine (write_fits g gl gi len cap s B rv bs D E w hk (fun k hk' => h3 k (h1 k hk')) hd hs hlen hl hB hP hS).mono ?_
    rintro e w' ⟨rfl, ⟨rv', hk', ho⟩, hof, hsz⟩
    refine ⟨rfl, ⟨_, gl, gi, rv', hk', fun k hk2 => ?_, fun k hk2 => ?_, fun k hk2 => ?_⟩, hof.mono fun k _ => h2 k⟩
    · rcases hk2 with hk2 | rfl
      · exact .inl (h1 k hk2)
      · exact .inr ⟨Nat.le_refl _, hsz⟩
    · rcases hk2 with rfl | rfl | rfl | hk2
      · exact .inl (h2 _ (.inl rfl))
      · exact .inl (h2 _ (.inr (.inl rfl)))
      · exact .inl (h2 _ (.inr (.inr (.inl rfl))))
      · rcases ho with ho | ⟨r, ho, hr1, hr2⟩
        · exact .inl (h2 _ (.inr (.inr (.inr (ho ▸ hk2)))))
        · rw [ho] at hk2; injection hk2 with hk2; subst hk2
          exact .inr ⟨hr1, hr2⟩
    · rcases hk2 with hk2 | hk2
      · have := h3 k hk2; have := hof.size; omega
      · exact hk2.2
  · refine (Disk.write_no g len cap B F D i bs w h hlen hn).mono ?_
    rintro e w' ⟨rfl, rfl⟩
    rw [writeD_no (by rw [hlen]; exact hn)]
    obtain ⟨E, gl, gi, rv, hk, h1, h2, h3⟩ := h
    exact ⟨rfl, ⟨E, gl, gi, rv, hk, fun k hk' => .inl (h1 k hk'), fun k hk' => .inl (h2 k hk'), fun k hk' => hk'.elim (h3 k) fun e => e.2⟩, Off.refl _ _⟩

end Go.Proofs.Ytiemfhncadcemaa
