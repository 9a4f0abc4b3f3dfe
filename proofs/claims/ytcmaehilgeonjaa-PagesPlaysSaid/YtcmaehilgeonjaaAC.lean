/- pages: the reference's Part. -/
import Derived.Test.YtcmaehilgeonjaaAD
import Derived.Deep.RegionLaw
namespace Go.Proofs.Ytcmaehilgeonjaa
open Go.RowKit Pgs
/-- append in a region that draws, where its run is known. -/
theorem step_app {P : Program} {ops : Array Oper} {o : Oper} {a : Act} {w : World} {K : Act → World → Prop} {Q : Exit → Act → World → Prop} {E : Prop} (hg : o.guard = none) (s x : Operand) (t : TypeId)
    (hop : o.op = Op.call { callee := Callee.builtin Builtin.append, args := #[s, x], argTypes := #[t, t] }) (v xv v' : Value) (w' : World) (hs : a.eval s = v) (hx : a.eval x = xv)
    (hrun : (Builtin.append_ #[t, t] o.type #[v, xv]).run P w = .ok v' w') (hK : K (a.put o.dst v') w') : if Region.wanted o (yielded ops a.tmps) = true then Oper.wp P o a w K Q else E := by
  rw [if_pos (show Region.wanted o (yielded ops a.tmps) = true by simp [Region.wanted, hg])]
  unfold Oper.wp execOp
  simp only [hop, resolve, invoke, builtin, Sem.run_bind, Sem.run_pure, Result.andThen_ok, List.map_toArray, List.map_cons, List.map_nil, hs, hx, hrun]
  exact hK
theorem RbI.drew {w wr : World} {v : Value} {bs : List UInt8} (h : RbI w wr v bs) : RbI w wr.drew v bs := ⟨own_below h.own (Below.refl _ _).drew, h.bel.drew⟩
theorem RbI.shape {w wr : World} {v : Value} {bs : List UInt8} (h : RbI w wr v bs) : ∃ A c, v = .slice A bs.length c ∧ bs.length ≤ c ∧ c ≤ maxLen ∧ Bytes wr A bs := by
  have ho := h.own
  rcases ho.2 with ⟨e, h0⟩ | ⟨g, cap, cur, rfl, _, _, hnc, hm, _⟩
  · subst e
    rw [h0] at ho ⊢
    exact ⟨none, 0, rfl, Nat.le_refl _, Nat.zero_le _, Bytes.of_own ho⟩
  · exact ⟨_, cap, rfl, hnc, hm, Bytes.of_own ho⟩
theorem bytes2_at {w : World} {A : Option Addr} {P : List Nat} (hB : Bytes w A (bytes2 P)) {q x : Nat} (hx : P[q]? = some x) :
    ∃ b off, A = some ⟨b, off, none⟩ ∧ w.cell? ⟨b, off + 2 * q, none⟩ = some (.int .u8 ((UInt8.ofNat x).toNat : Int)) ∧ w.cell? ⟨b, off + (2 * q + 1), none⟩ = some (.int .u8 ((UInt8.ofNat (x / 256)).toNat : Int)) := by
  have hq := (List.getElem?_eq_some_iff.1 hx).1
  have hg := bytes2_get P q
  have hd : P.getD q 0 = x := by rw [List.getD_eq_getElem?_getD, hx]; rfl
  rw [hd] at hg
  have hl := bytes2_len P
  have e0 : ∀ k, k < (bytes2 P).length → (bytes2 P)[k]? = some ((bytes2 P).getD k 0) := fun k hk => by rw [List.getD_eq_getElem?_getD, List.getElem?_eq_getElem hk]; rfl
  have h0 := e0 (2 * q) (by omega)
  have h1 := e0 (2 * q + 1) (by omega)
  rw [hg.1] at h0
  rw [hg.2] at h1
  obtain ⟨b, off, e, _, hc0⟩ := hB _ _ h0
  obtain ⟨b', off', e', _, hc1⟩ := hB _ _ h1
  rw [e] at e'
  cases e'
  exact ⟨b, off, e, hc0, hc1⟩
def sliceLen : Value → Nat
  | .slice _ n _ => n
  | _ => 0
theorem Bytes.take_ {w : World} {A : Option Addr} {bs : List UInt8} (h : Bytes w A bs) (n : Nat) : Bytes w A (bs.take n) := fun k c hk => by
  rcases Nat.lt_or_ge k n with e | e
  · rw [List.getElem?_take_of_lt e] at hk; exact h k c hk
  · rw [List.getElem?_eq_none (by rw [List.length_take]; omega)] at hk; cases hk
theorem bytes2_take (P : List Nat) (q : Nat) : bytes2 (P.take q) = (bytes2 P).take (2 * q) := by
  induction P generalizing q with
  | nil => simp [bytes2]
  | cons x r ih =>
    cases q with
    | zero => rfl
    | succ q => rw [List.take_succ_cons, bytes2_cons, bytes2_cons, ih, show 2 * (q + 1) = 2 * q + 1 + 1 by omega, List.take_succ_cons, List.take_succ_cons]
set_option maxRecDepth 20000 in
set_option maxHeartbeats 2000000 in
theorem rpart_some (g i : Nat) (L : List Nat) (w : World) (h : PR w g L) (hi : i < 9) :
    Calls Try.prog 27 #[.pointer (some ⟨g, 0, none⟩), .int .i64 (i : Int)] w fun e w' => ∃ A n c, e = .returned (.slice A n c) ∧ n ≤ c ∧ c ≤ maxLen ∧ (partB L i).length = n ∧ Bytes w' A (partB L i) ∧ Below w.heap.size w w' := by
  have h2 : decide ((i : Int) < 0) = false := by simp
  have h3 : decide ((i : Int) ≥ 9) = false := by simp; omega
  have HP := Lib.hid h
  have hpl := partR_len h.ok hi
  rw [partB_R h.ok hi]
  obtain ⟨P, hP⟩ : ∃ P, partR L i = P := ⟨_, rfl⟩
  obtain ⟨m, hm⟩ : ∃ m, min 124 (1024 - i * 124) = m := ⟨_, rfl⟩
  have hm1 : m ≤ 124 := by omega
  have hm2 : i * 124 + m ≤ 1024 := by omega
  have hm3 : m < 124 → i * 124 + m = 1024 := by omega
  have HG : Hid (∀ j, j < m → ∃ x : Nat, P[j]? = some x ∧ x < 65536 ∧ ∀ W, PR W g L → W.cell? ⟨g, i * 124 + j, none⟩ = some (.int .i64 (x : Int))) := Lib.hid (fun j hj => by
    have hx := List.getElem?_eq_getElem (show i * 124 + j < L.length by rw [h.ok.len]; omega)
    refine ⟨_, ?_, h.ok.lt _ _ hx, fun W hW => hW.cell hx (by omega)⟩
    rw [← hP, partR_get (by omega) (by omega)]; exact hx)
  rw [hP, hm] at hpl
  rw [hP]
  have HPL := Lib.hid hpl
  have HI0 : Hid (RbI w w (.slice none 0 0) (bytes2 (P.take 0))) := Lib.hid ⟨World.ownsRow_nil _ _ _ _, Below.refl _ _⟩
  clear hP hm hpl h
  go_enter Try.func27, Try.ntmps27
  go_wp2_with fail
  go_loopw [5, 6] (fun bvv kv wr => ∃ j : Nat, j ≤ m ∧ kv = .int .i64 ((i : Int) * 124 + (j : Int)) ∧ Hid (RbI w wr bvv (bytes2 (P.take j)))) (fun _ kv _ => i * 124 + 124 - (intOf kv).toNat)
  case atStart => exact ⟨0, Nat.zero_le _, by simp, HI0⟩
  case round =>
    clear HI0
    obtain ⟨j, hj, rfl, hI⟩ := hrel
    by_cases hlt : j < m
    · have hd1 : decide ((i : Int) * 124 + (j : Int) < ((i : Int) + 1) * 124) = true := by simp; omega
      have hd2 : decide ((i : Int) * 124 + (j : Int) < 1024) = true := by simp; omega
      obtain ⟨x, hx, hx6, hc⟩ := HG.out j hlt
      have c0 := hc wr (HP.out.below hI.out.bel)
      have r1 : (0 : Int) ≤ (i : Int) * 124 + (j : Int) := by omega
      have r2 : ((i : Int) * 124 + (j : Int)).toNat = i * 124 + j := by omega
      have r3 : (i : Int) * 124 + (j : Int) < 1024 := by omega
      obtain ⟨b0, hb0⟩ : ∃ b0, UInt8.ofNat x = b0 := ⟨_, rfl⟩
      obtain ⟨b1, hb1⟩ : ∃ b1, UInt8.ofNat (x / 256) = b1 := ⟨_, rfl⟩
      have u1 : IntKind.u8.wrap ((x : Int).tmod 256) = (b0.toNat : Int) := by
        rw [← hb0, Int.tmod_eq_emod_of_nonneg (by omega), IntKind.wrap_u8]
        simp only [UInt8.toNat_ofNat']; omega
      have u2 : IntKind.u8.wrap (IntKind.i64.wrap ((x : Int) / 256)) = (b1.toNat : Int) := by
        rw [← hb1, IntWalk.i64_in _ (by omega), IntKind.wrap_u8]
        simp only [UInt8.toNat_ofNat']; omega
      have hts : P.take (j + 1) = P.take j ++ [x] := by
        obtain ⟨h1, h2⟩ := List.getElem?_eq_some_iff.1 hx
        rw [List.take_succ_eq_append_getElem h1, h2]
      have hbs : bytes2 (P.take (j + 1)) = bytes2 (P.take j) ++ [UInt8.ofNat x, UInt8.ofNat (x / 256)] := by
        rw [hts]; unfold bytes2; rw [List.flatMap_append]; rfl
      obtain ⟨v', w5, hrun, hT⟩ := hI.out.drew.push (UInt8.ofNat x) (UInt8.ofNat (x / 256)) (by rw [bytes2_len, List.length_take]; omega)
      rw [← hbs] at hT
      rw [hb0, hb1] at hrun
      have HRUN := Lib.hid hrun
      have HT := Lib.hid hT
      clear hx hc hrun hT hts hbs hb0 hb1
      go_wp2_with fail
      go_region_law (refine step_app rfl (.tmp 30) (.tmp 47) 30 rfl _ _ _ _ (by simp [Act.eval]) (by simp [Act.eval]) HRUN.out ?_)
      all_goals
        go_wp2_with fail
        go_roundw
        case rel => exact ⟨j + 1, by omega, by go_num, HT⟩
        case measure => simp [intOf]; omega
    · obtain rfl : m = j := by omega
      obtain ⟨bx, hbx⟩ : ∃ bx, decide ((i : Int) * 124 + (m : Int) < ((i : Int) + 1) * 124) = bx := ⟨_, rfl⟩
      have hd4 : bx = true → decide ((i : Int) * 124 + (m : Int) < 1024) = false := fun h => by
        rw [h] at hbx
        simp only [decide_eq_true_eq] at hbx
        simp; omega
      obtain ⟨A, c, hv, hc1, hc2, hB⟩ := hI.out.shape
      rw [List.take_of_length_le (by rw [HPL.out]; omega)] at hv hc1 hB
      rw [bytes2_len, HPL.out] at hv hc1
      have HBL := Lib.hid hI.out.bel
      have HC : Hid (2 * m ≤ c ∧ c ≤ maxLen) := Lib.hid ⟨hc1, hc2⟩
      have HB := Lib.hid hB
      subst hv
      clear hI hlt hj hc1 hc2 hB
      have HZ0 : Hid (∀ j, m ≤ j → j < m → P[j]? = some 0) := Lib.hid (fun j h1 h2 => by omega)
      cases bx
      all_goals
        try have hd5 := hd4 rfl
        clear hd4
        go_wp2_with fail
        go_loopw [5] (fun bvv wz => ∃ q : Nat, q ≤ m ∧ bvv = .slice A (2 * q) c ∧ wz = wr ∧ Hid (∀ j, q ≤ j → j < m → P[j]? = some 0)) (fun bvv _ => sliceLen bvv)
        case atStart => exact ⟨m, Nat.le_refl _, rfl, rfl, HZ0⟩
        case round =>
          clear HZ0
          obtain ⟨q, hq, rfl, rfl, hZ⟩ := hrel
          cases q with
          | zero =>
            have HT : Hid (trim P = P.take 0) := Lib.hid (trim_take P 0 (Nat.zero_le _) (fun j h1 h2 => hZ.out j h1 (by rw [← HPL.out]; exact h2)) (.inl rfl))
            go_wp2_with fail
            go_ret
            refine ⟨A, 0, c, rfl, Nat.zero_le _, HC.out.2, ?_, ?_, HBL.out⟩
            · rw [HT.out]; rfl
            · rw [HT.out]; exact Bytes.nil _ _
          | succ q =>
            obtain ⟨x, hx, hx6, _⟩ := HG.out q (by omega)
            obtain ⟨b, off, rfl, c0, c1⟩ := bytes2_at HB.out hx
            obtain ⟨n, hn⟩ : ∃ n, 2 * (q + 1) = n := ⟨_, rfl⟩
            obtain ⟨p0, hp0⟩ : ∃ p0, 2 * q = p0 := ⟨_, rfl⟩
            obtain ⟨p1, hp1⟩ : ∃ p1, 2 * q + 1 = p1 := ⟨_, rfl⟩
            rw [hp1] at c1
            rw [hp0] at c0
            rw [hn]
            have e1 : (n : Int) - 1 = (p1 : Int) := by omega
            have e2 : (n : Int) - 2 = (p0 : Int) := by omega
            have e3 : (0 : Int) < (n : Int) := by omega
            have l1 : (p1 : Int) < (n : Int) := by omega
            have l0 : (p0 : Int) < (n : Int) := by omega
            have hcn := HC.out
            have l2 : (p0 : Int) ≤ (c : Int) := by omega
            obtain ⟨b0, hb0⟩ : ∃ b0, UInt8.ofNat x = b0 := ⟨_, rfl⟩
            obtain ⟨b1, hb1⟩ : ∃ b1, UInt8.ofNat (x / 256) = b1 := ⟨_, rfl⟩
            have t0 : b0.toNat = x % 256 := by rw [← hb0]; simp
            have t1 : b1.toNat = x / 256 := by rw [← hb1, UInt8.toNat_ofNat']; omega
            rw [hb0] at c0
            rw [hb1] at c1
            by_cases hx0 : x = 0
            · have z0 : b0.toNat = 0 := by omega
              have z1 : b1.toNat = 0 := by omega
              rw [z0] at c0
              rw [z1] at c1
              have HZ2 : Hid (∀ j, q ≤ j → j < m → P[j]? = some 0) := Lib.hid (fun j h1 h2 => by
                by_cases e : j = q
                · subst e; rw [hx, hx0]
                · exact hZ.out j (by omega) h2)
              clear hx hZ t0 t1 hb0 hb1
              go_wp2_with fail
              go_roundw
              case rel => exact ⟨q, by omega, by rw [hp0], by trivial, HZ2⟩
              case measure => simp [sliceLen]; omega
            · have HT : Hid (trim P = P.take (q + 1)) := Lib.hid (trim_take P (q + 1) (by rw [HPL.out]; omega) (fun j h1 h2 => hZ.out j h1 (by rw [← HPL.out]; exact h2)) (.inr ⟨x, by rw [Nat.add_sub_cancel]; exact hx, hx0⟩))
              have HF : Hid (∃ (A' : Option Addr) (n' c' : Nat), Ending.returned (Value.slice (some ⟨b, off, none⟩) n c) = .returned (.slice A' n' c') ∧ n' ≤ c' ∧ c' ≤ maxLen ∧ (bytes2 (trim P)).length = n' ∧ Bytes wr A' (bytes2 (trim P)) ∧ Below w.heap.size w wr) := Lib.hid (by
                refine ⟨_, _, _, rfl, by omega, hcn.2, ?_, ?_, HBL.out⟩
                · rw [HT.out, bytes2_len, List.length_take, HPL.out]; omega
                · rw [HT.out, bytes2_take]; exact HB.out.take_ _)
              by_cases hz1 : b1.toNat = 0
              · have hz0 : b0.toNat ≠ 0 := by omega
                have hxi : ((b0.toNat : Int) == 0) = false := by simp; omega
                rw [hz1] at c1
                obtain ⟨y0, hy0⟩ : ∃ y0, b0.toNat = y0 := ⟨_, rfl⟩
                rw [hy0] at c0 hxi
                clear hx hZ t0 t1 hb0 hb1 HT hz0 hz1 hy0
                go_wp2_with fail
                go_ret
                exact HF.out
              · have hxi : ((b1.toNat : Int) == 0) = false := by simp; omega
                obtain ⟨y1, hy1⟩ : ∃ y1, b1.toNat = y1 := ⟨_, rfl⟩
                rw [hy1] at c1 hxi
                clear hx hZ t0 t1 hb0 hb1 HT hz1 hy1
                go_wp2_with fail
                go_ret
                exact HF.out
end Go.Proofs.Ytcmaehilgeonjaa
