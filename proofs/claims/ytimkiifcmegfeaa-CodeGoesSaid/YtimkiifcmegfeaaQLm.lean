/- Contracts. -/
import Derived.Test.YtimkiifcmegfeaaBN
import Derived.Test.YtimkiifcmegfeaaBO
/- code: what is written is read, and what is read is written. -/
namespace Go.Proofs.Ytimkiifcmegfeaa
open Go.RowKit
set_option linter.unusedVariables false
set_option linter.unusedSimpArgs false
theorem nb_len (x : Int) (n : Nat) : (nb x n).length = n := lePut_length _ _
theorem lePut_cons (x n : Nat) : lePut x (n + 1) = UInt8.ofNat x :: lePut (x / 256) n := rfl
theorem leN_lePut : ∀ (n x : Nat), leN (lePut x n) = x % 256 ^ n
  | 0, x => by rw [List.eq_nil_of_length_eq_zero (lePut_length x 0)]; simp [leN, Nat.mod_one]
  | n + 1, x => by
    rw [lePut_cons, leN, leN_lePut n (x / 256), UInt8.toNat_ofNat']
    have h : x % 256 ^ (n + 1) = x % 256 + 256 * (x / 256 % 256 ^ n) := by rw [Nat.pow_succ, Nat.mul_comm]; exact Nat.mod_mul
    rw [h]
theorem lePut_leN : ∀ (l : List UInt8), lePut (leN l) l.length = l
  | [] => List.eq_nil_of_length_eq_zero (lePut_length _ 0)
  | c :: l => by
    have h := c.toNat_lt
    rw [List.length_cons, lePut_cons, leN, show (c.toNat + 256 * leN l) / 256 = leN l by omega, lePut_leN l]
    congr 1
    apply UInt8.toNat_inj.1
    rw [UInt8.toNat_ofNat']
    omega
theorem nb_leN (l : List UInt8) (h : l.length ≤ 8) : nb (leN l : Int) l.length = l := by
  have h1 := leN_lt l
  have h2 : 256 ^ l.length ≤ 256 ^ 8 := Nat.pow_le_pow_right (by omega) h
  have h3 : (256 : Nat) ^ 8 = 18446744073709551616 := by decide
  unfold nb
  rw [show ((leN l : Int) % 18446744073709551616).toNat = leN l by omega]
  exact lePut_leN l
theorem wrap_mod (x : Nat) (h : x < 18446744073709551616) : (IntKind.i64.wrap (x : Int) % 18446744073709551616).toNat = x := by
  simp [IntKind.wrap, IntKind.bits, IntKind.signed]
  split <;> omega
theorem nb_wrap (l : List UInt8) (h : l.length = 8) : nb (IntKind.i64.wrap (leN l : Int)) 8 = l := by
  have h1 := leN_lt l
  rw [h] at h1
  have h3 : (256 : Nat) ^ 8 = 18446744073709551616 := by decide
  unfold nb
  rw [wrap_mod _ (by omega)]
  have := lePut_leN l
  rw [h] at this
  exact this
theorem leN_nb (x : Nat) (n : Nat) (hn : n ≤ 8) (h : x < 256 ^ n) : leN (nb (x : Int) n) = x := by
  have h2 : 256 ^ n ≤ 256 ^ 8 := Nat.pow_le_pow_right (by omega) hn
  have h3 : (256 : Nat) ^ 8 = 18446744073709551616 := by decide
  unfold nb
  rw [show ((x : Int) % 18446744073709551616).toNat = x by omega, leN_lePut, Nat.mod_eq_of_lt h]
theorem wrap_nb (x : Int) (h : -9223372036854775808 ≤ x ∧ x < 9223372036854775808) : IntKind.i64.wrap (leN (nb x 8) : Int) = x := by
  have h3 : (256 : Nat) ^ 8 = 18446744073709551616 := by decide
  unfold nb
  rw [leN_lePut, Nat.mod_eq_of_lt (by omega)]
  simp [IntKind.wrap, IntKind.bits, IntKind.signed]
  split <;> omega
theorem field_mid (pre x rest : List UInt8) {k n : Nat} (hk : k = pre.length) (hn : n = x.length) : fieldOf (pre ++ (x ++ rest)) k n = x := by
  subst hk hn
  unfold fieldOf
  rw [List.drop_left, List.take_left]
/-! forward -/
theorem rdT_tb (s pre rest : List UInt8) (hs : s.length < 4294967296) : rdT (pre ++ (tb s ++ rest)) pre.length = some (s, pre.length + (tb s).length) := by
  have hl : (tb s).length = 4 + s.length := by unfold tb; rw [List.length_append, nb_len]
  have e4 : leN (fieldOf (pre ++ (tb s ++ rest)) pre.length 4) = s.length := by
    unfold tb
    rw [List.append_assoc, field_mid pre (nb (s.length : Int) 4) (s ++ rest) rfl (by rw [nb_len]), leN_nb _ _ (by decide) (by omega)]
  unfold rdT
  rw [e4, if_pos ⟨by simp only [List.length_append, hl]; omega, by simp only [List.length_append, hl]; omega⟩, hl, ← Nat.add_assoc]
  congr 2
  unfold tb
  rw [List.append_assoc, ← List.append_assoc, field_mid (pre ++ nb (s.length : Int) 4) s rest (by rw [List.length_append, nb_len]) rfl]
theorem ib_len (i : Ins) : (ib i).length = 29 + i.tx.length := by
  unfold ib tb
  simp only [List.length_append, nb_len]
  omega
theorem rdI_ib (i : Ins) (pre rest : List UInt8) (hi : i.ok) (ht : i.tx.length < 4294967296) : rdI (pre ++ (ib i ++ rest)) pre.length = some (i, pre.length + (ib i).length) := by
  have e0 : pre ++ (ib i ++ rest) = pre ++ (nb (i.op : Int) 1 ++ (nb i.a 8 ++ (nb i.b 8 ++ (nb i.c 8 ++ (nb (i.tx.length : Int) 4 ++ (i.tx ++ rest)))))) := by unfold ib tb; simp only [List.append_assoc]
  have e1 : pre ++ (ib i ++ rest) = (pre ++ nb (i.op : Int) 1) ++ (nb i.a 8 ++ (nb i.b 8 ++ (nb i.c 8 ++ (nb (i.tx.length : Int) 4 ++ (i.tx ++ rest))))) := by rw [e0]; simp only [List.append_assoc]
  have e2 : pre ++ (ib i ++ rest) = (pre ++ nb (i.op : Int) 1 ++ nb i.a 8) ++ (nb i.b 8 ++ (nb i.c 8 ++ (nb (i.tx.length : Int) 4 ++ (i.tx ++ rest)))) := by rw [e0]; simp only [List.append_assoc]
  have e3 : pre ++ (ib i ++ rest) = (pre ++ nb (i.op : Int) 1 ++ nb i.a 8 ++ nb i.b 8) ++ (nb i.c 8 ++ (nb (i.tx.length : Int) 4 ++ (i.tx ++ rest))) := by rw [e0]; simp only [List.append_assoc]
  have e4 : pre ++ (ib i ++ rest) = (pre ++ nb (i.op : Int) 1 ++ nb i.a 8 ++ nb i.b 8 ++ nb i.c 8) ++ (nb (i.tx.length : Int) 4 ++ (i.tx ++ rest)) := by rw [e0]; simp only [List.append_assoc]
  have e5 : pre ++ (ib i ++ rest) = (pre ++ nb (i.op : Int) 1 ++ nb i.a 8 ++ nb i.b 8 ++ nb i.c 8 ++ nb (i.tx.length : Int) 4) ++ (i.tx ++ rest) := by rw [e0]; simp only [List.append_assoc]
  have f0 : leN (fieldOf (pre ++ (ib i ++ rest)) pre.length 1) = i.op := by rw [e0, field_mid _ _ _ rfl (by rw [nb_len]), leN_nb _ _ (by decide) (by have := hi.op; omega)]
  have f1 : numI (pre ++ (ib i ++ rest)) (pre.length + 1) 8 = i.a := by unfold numI; rw [e1, field_mid _ _ _ (by simp [nb_len]) (by rw [nb_len]), wrap_nb _ hi.a]
  have f2 : numI (pre ++ (ib i ++ rest)) (pre.length + 9) 8 = i.b := by unfold numI; rw [e2, field_mid _ _ _ (by simp [nb_len]) (by rw [nb_len]), wrap_nb _ hi.b]
  have f3 : numI (pre ++ (ib i ++ rest)) (pre.length + 17) 8 = i.c := by unfold numI; rw [e3, field_mid _ _ _ (by simp [nb_len]) (by rw [nb_len]), wrap_nb _ hi.c]
  have f4 : leN (fieldOf (pre ++ (ib i ++ rest)) (pre.length + 25) 4) = i.tx.length := by rw [e4, field_mid _ _ _ (by simp [nb_len]) (by rw [nb_len]), leN_nb _ _ (by decide) (by omega)]
  have f5 : fieldOf (pre ++ (ib i ++ rest)) (pre.length + 29) i.tx.length = i.tx := by rw [e5, field_mid _ _ _ (by simp [nb_len]) rfl]
  have hl : (pre ++ (ib i ++ rest)).length = pre.length + (29 + i.tx.length) + rest.length := by rw [List.length_append, List.length_append, ib_len]; omega
  unfold rdI
  rw [f0, f1, f2, f3, f4, f5, hl, if_pos ⟨by omega, by omega⟩, ib_len, Nat.add_assoc]
theorem rdIs_ibs : ∀ (is : List Ins) (pre rest : List UInt8), (∀ i ∈ is, i.ok ∧ i.tx.length < 4294967296) → rdIs (pre ++ (ibs is ++ rest)) is.length pre.length = some (is, pre.length + (ibs is).length)
  | [], pre, rest, _ => by simp [rdIs, ibs]
  | i :: is, pre, rest, h => by
    have h1 := rdI_ib i pre (ibs is ++ rest) (h i List.mem_cons_self).1 (h i List.mem_cons_self).2
    have h2 := rdIs_ibs is (pre ++ ib i) rest fun j hj => h j (List.mem_cons_of_mem _ hj)
    rw [List.length_append] at h2
    rw [show pre ++ (ibs (i :: is) ++ rest) = pre ++ (ib i ++ (ibs is ++ rest)) by rw [ibs, List.append_assoc], List.length_cons, rdIs, h1]
    show (rdIs _ is.length (pre.length + (ib i).length)).map _ = _
    rw [show pre ++ (ib i ++ (ibs is ++ rest)) = pre ++ ib i ++ (ibs is ++ rest) by rw [List.append_assoc], h2]
    simp [ibs, Nat.add_assoc]
theorem rdF_fb (f : List Ins) (pre rest : List UInt8) (hl : f.length < 4294967296) (h : ∀ i ∈ f, i.ok ∧ i.tx.length < 4294967296) : rdF (pre ++ (nb (f.length : Int) 4 ++ (ibs f ++ rest))) pre.length = some (f, pre.length + 4 + (ibs f).length) := by
  have h2 := rdIs_ibs f (pre ++ nb (f.length : Int) 4) rest h
  rw [List.length_append, nb_len, List.append_assoc] at h2
  unfold rdF
  rw [field_mid _ _ _ rfl (by rw [nb_len]), leN_nb _ _ (by decide) (by omega), if_pos (by simp [nb_len])]
  exact h2
theorem rdFs_fbs : ∀ (fs : List (List Ins)) (pre rest : List UInt8), (∀ f ∈ fs, f.length < 4294967296 ∧ ∀ i ∈ f, i.ok ∧ i.tx.length < 4294967296) → rdFs (pre ++ (fbs fs ++ rest)) fs.length pre.length = some (fs, pre.length + (fbs fs).length)
  | [], pre, rest, _ => by simp [rdFs, fbs]
  | f :: fs, pre, rest, h => by
    have h0 := h f List.mem_cons_self
    have h1 := rdF_fb f pre (fbs fs ++ rest) h0.1 h0.2
    have h2 := rdFs_fbs fs (pre ++ (nb (f.length : Int) 4 ++ ibs f)) rest fun j hj => h j (List.mem_cons_of_mem _ hj)
    have e : pre ++ (fbs (f :: fs) ++ rest) = pre ++ (nb (f.length : Int) 4 ++ (ibs f ++ (fbs fs ++ rest))) := by rw [fbs]; simp only [List.append_assoc]
    rw [e, List.length_cons, rdFs, h1]
    show (rdFs _ fs.length (pre.length + 4 + (ibs f).length)).map _ = _
    rw [show pre ++ (nb (f.length : Int) 4 ++ (ibs f ++ (fbs fs ++ rest))) = (pre ++ (nb (f.length : Int) 4 ++ ibs f)) ++ (fbs fs ++ rest) by simp only [List.append_assoc], show pre.length + 4 + (ibs f).length = (pre ++ (nb (f.length : Int) 4 ++ ibs f)).length by simp [nb_len]; omega, h2]
    simp [fbs, nb_len]
    omega
theorem rdRs_rbs : ∀ (rs : List (List UInt8 × List UInt8)) (pre rest : List UInt8), (∀ r ∈ rs, r.1.length < 4294967296 ∧ r.2.length < 4294967296) → rdRs (pre ++ (rbs rs ++ rest)) rs.length pre.length = some (rs, pre.length + (rbs rs).length)
  | [], pre, rest, _ => by simp [rdRs, rbs]
  | r :: rs, pre, rest, h => by
    have h0 := h r List.mem_cons_self
    have h1 := rdT_tb r.1 pre (tb r.2 ++ (rbs rs ++ rest)) h0.1
    have h1' := rdT_tb r.2 (pre ++ tb r.1) (rbs rs ++ rest) h0.2
    have h2 := rdRs_rbs rs (pre ++ (tb r.1 ++ tb r.2)) rest fun j hj => h j (List.mem_cons_of_mem _ hj)
    have e : pre ++ (rbs (r :: rs) ++ rest) = pre ++ (tb r.1 ++ (tb r.2 ++ (rbs rs ++ rest))) := by rw [rbs]; simp only [List.append_assoc]
    have e2 : pre ++ (tb r.1 ++ (tb r.2 ++ (rbs rs ++ rest))) = pre ++ tb r.1 ++ (tb r.2 ++ (rbs rs ++ rest)) := by simp only [List.append_assoc]
    have hR : rdR (pre ++ (tb r.1 ++ (tb r.2 ++ (rbs rs ++ rest)))) pre.length = some (r, pre.length + (tb r.1).length + (tb r.2).length) := by
      refine rdR_yes _ h1 ?_
      rw [e2, show pre.length + (tb r.1).length = (pre ++ tb r.1).length by simp, h1']
    rw [e, List.length_cons, rdRs, hR]
    show (rdRs _ rs.length (pre.length + (tb r.1).length + (tb r.2).length)).map _ = _
    rw [show pre ++ (tb r.1 ++ (tb r.2 ++ (rbs rs ++ rest))) = (pre ++ (tb r.1 ++ tb r.2)) ++ (rbs rs ++ rest) by simp only [List.append_assoc], show pre.length + (tb r.1).length + (tb r.2).length = (pre ++ (tb r.1 ++ tb r.2)).length by simp; omega, h2]
    simp [rbs]
    omega
/-- A code that may be written as it is. -/
structure Cd.fine (c : Cd) : Prop where
  fl : c.fs.length < 4294967296
  rl : c.rs.length < 4294967296
  f : ∀ f ∈ c.fs, f.length < 4294967296 ∧ ∀ i ∈ f, i.ok ∧ i.tx.length < 4294967296
  r : ∀ r ∈ c.rs, r.1.length < 4294967296 ∧ r.2.length < 4294967296
theorem read_write (c : Cd) (h : c.fine) : readB (cbytes c) = some c := by
  obtain ⟨fs, rs⟩ := c
  have h1 := rdFs_fbs fs (nb (fs.length : Int) 4) (nb (rs.length : Int) 4 ++ rbs rs) h.f
  rw [nb_len] at h1
  have h2 := rdRs_rbs rs (nb (fs.length : Int) 4 ++ (fbs fs ++ nb (rs.length : Int) 4)) [] h.r
  rw [List.append_nil] at h2
  have e0 : cbytes ⟨fs, rs⟩ = nb (fs.length : Int) 4 ++ (fbs fs ++ (nb (rs.length : Int) 4 ++ rbs rs)) := rfl
  have e1 : cbytes ⟨fs, rs⟩ = (nb (fs.length : Int) 4 ++ fbs fs) ++ (nb (rs.length : Int) 4 ++ rbs rs) := by rw [e0]; simp only [List.append_assoc]
  have e2 : cbytes ⟨fs, rs⟩ = (nb (fs.length : Int) 4 ++ (fbs fs ++ nb (rs.length : Int) 4)) ++ rbs rs := by rw [e0]; simp only [List.append_assoc]
  have hl : (cbytes ⟨fs, rs⟩).length = 4 + (fbs fs).length + 4 + (rbs rs).length := by rw [e0]; simp [nb_len]; omega
  have hE : rdEnd (cbytes ⟨fs, rs⟩) (4 + (fbs fs).length) = some rs := by
    unfold rdEnd
    have f0 : leN (fieldOf (cbytes ⟨fs, rs⟩) (4 + (fbs fs).length) 4) = rs.length := by rw [e1, field_mid _ _ _ (by simp [nb_len]) (by rw [nb_len]), leN_nb _ _ (by decide) (by have := h.rl; omega)]
    rw [f0, if_pos (by omega)]
    have h3 : rdRs (cbytes ⟨fs, rs⟩) rs.length (4 + (fbs fs).length + 4) = some (rs, 4 + (fbs fs).length + 4 + (rbs rs).length) := by
      rw [e2, show 4 + (fbs fs).length + 4 = (nb (fs.length : Int) 4 ++ (fbs fs ++ nb (rs.length : Int) 4)).length by simp [nb_len]; omega, h2]
    rw [h3]
    show (if _ = _ then _ else _) = _
    rw [if_pos (by rw [hl])]
  unfold readB
  have f0 : leN (fieldOf (cbytes ⟨fs, rs⟩) 0 4) = fs.length := by
    have := field_mid [] (nb (fs.length : Int) 4) (fbs fs ++ (nb (rs.length : Int) 4 ++ rbs rs)) (k := 0) (n := 4) rfl (by rw [nb_len])
    rw [List.nil_append] at this
    rw [e0, this, leN_nb _ _ (by decide) (by have := h.fl; omega)]
  rw [f0, if_pos (by omega)]
  rw [← e0] at h1
  rw [h1]
  show (rdEnd _ (4 + (fbs fs).length)).map _ = _
  rw [hE]; rfl
/-! backward -/
theorem drop_field (bs : List UInt8) (a n : Nat) : bs.drop a = fieldOf bs a n ++ bs.drop (a + n) := by
  unfold fieldOf
  rw [← List.drop_drop, List.take_append_drop]
theorem field_len' (bs : List UInt8) (a n : Nat) (h : a + n ≤ bs.length) : (fieldOf bs a n).length = n := by
  unfold fieldOf
  rw [List.length_take, List.length_drop]; omega
theorem nb_field (bs : List UInt8) (a n : Nat) (h : a + n ≤ bs.length) (hn : n ≤ 8) : nb (leN (fieldOf bs a n) : Int) n = fieldOf bs a n := by
  have := nb_leN (fieldOf bs a n) (by rw [field_len' _ _ _ h]; exact hn)
  rw [field_len' _ _ _ h] at this
  exact this
theorem nb_numI (bs : List UInt8) (a : Nat) (h : a + 8 ≤ bs.length) : nb (numI bs a 8) 8 = fieldOf bs a 8 := nb_wrap _ (field_len' _ _ _ h)
theorem tb_back (bs : List UInt8) (a : Nat) {s : List UInt8} {a' : Nat} (h : rdT bs a = some (s, a')) : bs.drop a = tb s ++ bs.drop a' ∧ a' ≤ bs.length := by
  unfold rdT at h
  split at h
  · rename_i hc
    simp only [Option.some.injEq, Prod.mk.injEq] at h
    obtain ⟨h1, h2⟩ := h
    refine ⟨?_, by rw [← h2]; exact hc.2⟩
    have hl := field_len' bs (a + 4) (leN (fieldOf bs a 4)) hc.2
    unfold tb
    rw [← h2, ← h1, hl, nb_field bs a 4 hc.1 (by decide), List.append_assoc, ← drop_field, ← drop_field]
  · cases h
theorem ib_back (bs : List UInt8) (a : Nat) {i : Ins} {a' : Nat} (h : rdI bs a = some (i, a')) : bs.drop a = ib i ++ bs.drop a' ∧ a' ≤ bs.length := by
  unfold rdI at h
  split at h
  · rename_i hc
    simp only [Option.some.injEq, Prod.mk.injEq] at h
    obtain ⟨h1, h2⟩ := h
    refine ⟨?_, by rw [← h2]; exact hc.2⟩
    have hl := field_len' bs (a + 29) (leN (fieldOf bs (a + 25) 4)) hc.2
    subst h1
    unfold ib tb
    simp only
    rw [← h2, hl, nb_field bs a 1 (by omega) (by decide), nb_numI _ _ (by omega), nb_numI _ _ (by omega), nb_numI _ _ (by omega), nb_field bs (a + 25) 4 (by omega) (by decide)]
    simp only [List.append_assoc]
    rw [← drop_field bs (a + 29), ← drop_field bs (a + 25) 4, ← drop_field bs (a + 17) 8, ← drop_field bs (a + 9) 8, ← drop_field bs (a + 1) 8, ← drop_field bs a 1]
  · cases h
theorem ibs_back (bs : List UInt8) : ∀ (k a : Nat) {is : List Ins} {a' : Nat}, rdIs bs k a = some (is, a') → a ≤ bs.length → bs.drop a = ibs is ++ bs.drop a' ∧ a' ≤ bs.length ∧ is.length = k
  | 0, a, is, a', h, ha => by
    simp only [rdIs, Option.some.injEq, Prod.mk.injEq] at h
    obtain ⟨rfl, rfl⟩ := h
    exact ⟨by simp [ibs], ha, rfl⟩
  | k + 1, a, is, a', h, ha => by
    rw [rdIs] at h
    cases hI : rdI bs a with
    | none => rw [hI] at h; cases h
    | some x =>
      rw [hI] at h
      have h : (rdIs bs k x.2).map (fun y => (x.1 :: y.1, y.2)) = some (is, a') := h
      cases hS : rdIs bs k x.2 with
      | none => rw [hS] at h; cases h
      | some y =>
        rw [hS] at h
        simp only [Option.map_some, Option.some.injEq, Prod.mk.injEq] at h
        obtain ⟨rfl, rfl⟩ := h
        have h1 := ib_back bs a hI
        have h2 := ibs_back bs k x.2 hS h1.2
        exact ⟨by rw [h1.1, h2.1, ibs, List.append_assoc], h2.2.1, by rw [List.length_cons, h2.2.2]⟩
theorem rdF_back (bs : List UInt8) (a : Nat) {f : List Ins} {a' : Nat} (h : rdF bs a = some (f, a')) : bs.drop a = nb (f.length : Int) 4 ++ (ibs f ++ bs.drop a') ∧ a' ≤ bs.length := by
  unfold rdF at h
  split at h
  · rename_i hc
    have h1 := ibs_back bs _ _ h hc
    exact ⟨by rw [← h1.1, h1.2.2, nb_field bs a 4 hc (by decide), ← drop_field], h1.2.1⟩
  · cases h
theorem rdFs_back (bs : List UInt8) : ∀ (k a : Nat) {fs : List (List Ins)} {a' : Nat}, rdFs bs k a = some (fs, a') → a ≤ bs.length → bs.drop a = fbs fs ++ bs.drop a' ∧ a' ≤ bs.length ∧ fs.length = k
  | 0, a, is, a', h, ha => by
    simp only [rdFs, Option.some.injEq, Prod.mk.injEq] at h
    obtain ⟨rfl, rfl⟩ := h
    exact ⟨by simp [fbs], ha, rfl⟩
  | k + 1, a, is, a', h, ha => by
    rw [rdFs] at h
    cases hI : rdF bs a with
    | none => rw [hI] at h; cases h
    | some x =>
      rw [hI] at h
      have h : (rdFs bs k x.2).map (fun y => (x.1 :: y.1, y.2)) = some (is, a') := h
      cases hS : rdFs bs k x.2 with
      | none => rw [hS] at h; cases h
      | some y =>
        rw [hS] at h
        simp only [Option.map_some, Option.some.injEq, Prod.mk.injEq] at h
        obtain ⟨rfl, rfl⟩ := h
        have h1 := rdF_back bs a hI
        have h2 := rdFs_back bs k x.2 hS h1.2
        exact ⟨by rw [h1.1, h2.1, fbs]; simp only [List.append_assoc], h2.2.1, by rw [List.length_cons, h2.2.2]⟩
theorem rdRs_back (bs : List UInt8) : ∀ (k a : Nat) {rs : List (List UInt8 × List UInt8)} {a' : Nat}, rdRs bs k a = some (rs, a') → a ≤ bs.length → bs.drop a = rbs rs ++ bs.drop a' ∧ a' ≤ bs.length ∧ rs.length = k
  | 0, a, is, a', h, ha => by
    simp only [rdRs, Option.some.injEq, Prod.mk.injEq] at h
    obtain ⟨rfl, rfl⟩ := h
    exact ⟨by simp [rbs], ha, rfl⟩
  | k + 1, a, is, a', h, ha => by
    rw [rdRs] at h
    cases hI : rdR bs a with
    | none => rw [hI] at h; cases h
    | some x =>
      rw [hI] at h
      have h : (rdRs bs k x.2).map (fun y => (x.1 :: y.1, y.2)) = some (is, a') := h
      cases hS : rdRs bs k x.2 with
      | none => rw [hS] at h; cases h
      | some y =>
        rw [hS] at h
        simp only [Option.map_some, Option.some.injEq, Prod.mk.injEq] at h
        obtain ⟨rfl, rfl⟩ := h
        unfold rdR at hI
        cases hA : rdT bs a with
        | none => rw [hA] at hI; cases hI
        | some u =>
          rw [hA] at hI
          have hI : (rdT bs u.2).map (fun y => ((u.1, y.1), y.2)) = some x := hI
          cases hB : rdT bs u.2 with
          | none => rw [hB] at hI; cases hI
          | some v =>
            rw [hB] at hI
            simp only [Option.map_some, Option.some.injEq] at hI
            subst hI
            have h1 := tb_back bs a hA
            have h1' := tb_back bs u.2 hB
            have h2 := rdRs_back bs k v.2 hS h1'.2
            exact ⟨by rw [h1.1, h1'.1, h2.1, rbs]; simp only [List.append_assoc], h2.2.1, by rw [List.length_cons, h2.2.2]⟩
theorem write_read (bs : List UInt8) (c : Cd) (h : readB bs = some c) : cbytes c = bs := by
  unfold readB at h
  split at h
  · rename_i hc
    cases hF : rdFs bs (leN (fieldOf bs 0 4)) 4 with
    | none => rw [hF] at h; cases h
    | some x =>
      rw [hF] at h
      have h : (rdEnd bs x.2).map (fun rs => (⟨x.1, rs⟩ : Cd)) = some c := h
      cases hE : rdEnd bs x.2 with
      | none => rw [hE] at h; cases h
      | some rs =>
        rw [hE] at h
        simp only [Option.map_some, Option.some.injEq] at h
        subst h
        unfold rdEnd at hE
        split at hE
        · rename_i hc2
          cases hR : rdRs bs (leN (fieldOf bs x.2 4)) (x.2 + 4) with
          | none => rw [hR] at hE; cases hE
          | some y =>
            rw [hR] at hE
            have hE : (if y.2 = bs.length then some y.1 else none) = some rs := hE
            split at hE
            · rename_i hc3
              simp only [Option.some.injEq] at hE
              subst hE
              have h1 := rdFs_back bs _ _ hF hc
              have h2 := rdRs_back bs _ _ hR hc2
              have h0 := drop_field bs 0 4
              rw [List.drop_zero, Nat.zero_add, h1.1, drop_field bs x.2 4, h2.1, hc3, List.drop_length, List.append_nil] at h0
              unfold cbytes
              simp only
              rw [h1.2.2, h2.2.2, nb_field bs 0 4 (by omega) (by decide), nb_field bs x.2 4 hc2 (by decide)]
              exact h0.symm
            · cases hE
        · cases hE
  · cases h
/-! with more behind -/
section
variable {p q : List UInt8}
theorem field_app {a n : Nat} (h : a + n ≤ p.length) : fieldOf (p ++ q) a n = fieldOf p a n := by
  unfold fieldOf
  rw [List.drop_append_of_le_length (by omega), List.take_append_of_le_length (by rw [List.length_drop]; omega)]
theorem rdT_app {a : Nat} {r : List UInt8 × Nat} (h : rdT p a = some r) : rdT (p ++ q) a = some r := by
  unfold rdT at h ⊢
  split at h
  · rename_i hc
    have h1 : leN (fieldOf (p ++ q) a 4) = leN (fieldOf p a 4) := by rw [field_app hc.1]
    rw [h1, if_pos ⟨by rw [List.length_append]; omega, by rw [List.length_append]; omega⟩, field_app hc.2]
    exact h
  · cases h
theorem rdI_app {a : Nat} {r : Ins × Nat} (h : rdI p a = some r) : rdI (p ++ q) a = some r := by
  unfold rdI numI at h ⊢
  split at h
  · rename_i hc
    have h1 : leN (fieldOf (p ++ q) (a + 25) 4) = leN (fieldOf p (a + 25) 4) := by rw [field_app (by omega)]
    rw [h1, if_pos ⟨by rw [List.length_append]; omega, by rw [List.length_append]; omega⟩, field_app hc.2, field_app (by omega), field_app (by omega), field_app (by omega), field_app (by omega)]
    exact h
  · cases h
theorem rdIs_app : ∀ (k a : Nat) {r : List Ins × Nat}, rdIs p k a = some r → rdIs (p ++ q) k a = some r
  | 0, a, r, h => h
  | k + 1, a, r, h => by
    rw [rdIs] at h ⊢
    cases hI : rdI p a with
    | none => rw [hI] at h; cases h
    | some x =>
      rw [hI] at h
      rw [rdI_app hI]
      have h : (rdIs p k x.2).map (fun y => (x.1 :: y.1, y.2)) = some r := h
      show (rdIs (p ++ q) k x.2).map (fun y => (x.1 :: y.1, y.2)) = some r
      cases hS : rdIs p k x.2 with
      | none => rw [hS] at h; cases h
      | some y => rw [rdIs_app k x.2 hS]; rw [hS] at h; exact h
theorem rdF_app {a : Nat} {r : List Ins × Nat} (h : rdF p a = some r) : rdF (p ++ q) a = some r := by
  unfold rdF at h ⊢
  split at h
  · rename_i hc
    rw [field_app hc, if_pos (by rw [List.length_append]; omega)]
    exact rdIs_app _ _ h
  · cases h
theorem rdFs_app : ∀ (k a : Nat) {r : List (List Ins) × Nat}, rdFs p k a = some r → rdFs (p ++ q) k a = some r
  | 0, a, r, h => h
  | k + 1, a, r, h => by
    rw [rdFs] at h ⊢
    cases hI : rdF p a with
    | none => rw [hI] at h; cases h
    | some x =>
      rw [hI] at h
      rw [rdF_app hI]
      have h : (rdFs p k x.2).map (fun y => (x.1 :: y.1, y.2)) = some r := h
      show (rdFs (p ++ q) k x.2).map (fun y => (x.1 :: y.1, y.2)) = some r
      cases hS : rdFs p k x.2 with
      | none => rw [hS] at h; cases h
      | some y => rw [rdFs_app k x.2 hS]; rw [hS] at h; exact h
theorem rdR_app {a : Nat} {r : (List UInt8 × List UInt8) × Nat} (h : rdR p a = some r) : rdR (p ++ q) a = some r := by
  unfold rdR at h ⊢
  cases hI : rdT p a with
  | none => rw [hI] at h; cases h
  | some x =>
    rw [hI] at h
    rw [rdT_app hI]
    have h : (rdT p x.2).map (fun y => ((x.1, y.1), y.2)) = some r := h
    show (rdT (p ++ q) x.2).map (fun y => ((x.1, y.1), y.2)) = some r
    cases hS : rdT p x.2 with
    | none => rw [hS] at h; cases h
    | some y => rw [rdT_app hS]; rw [hS] at h; exact h
theorem rdRs_app : ∀ (k a : Nat) {r : List (List UInt8 × List UInt8) × Nat}, rdRs p k a = some r → rdRs (p ++ q) k a = some r
  | 0, a, r, h => h
  | k + 1, a, r, h => by
    rw [rdRs] at h ⊢
    cases hI : rdR p a with
    | none => rw [hI] at h; cases h
    | some x =>
      rw [hI] at h
      rw [rdR_app hI]
      have h : (rdRs p k x.2).map (fun y => (x.1 :: y.1, y.2)) = some r := h
      show (rdRs (p ++ q) k x.2).map (fun y => (x.1 :: y.1, y.2)) = some r
      cases hS : rdRs p k x.2 with
      | none => rw [hS] at h; cases h
      | some y => rw [rdRs_app k x.2 hS]; rw [hS] at h; exact h
/-- With more behind it, it is no code. -/
theorem read_more {c : Cd} (h : readB p = some c) (hq : q ≠ []) : readB (p ++ q) = none := by
  have hql : 0 < q.length := List.length_pos_iff.2 hq
  unfold readB at h ⊢
  split at h
  · rename_i hc
    cases hF : rdFs p (leN (fieldOf p 0 4)) 4 with
    | none => rw [hF] at h; cases h
    | some x =>
      rw [hF] at h
      have h : (rdEnd p x.2).map (fun rs => (⟨x.1, rs⟩ : Cd)) = some c := h
      rw [if_pos (by rw [List.length_append]; omega), field_app (by omega), rdFs_app _ _ hF]
      show (rdEnd (p ++ q) x.2).map (fun rs => (⟨x.1, rs⟩ : Cd)) = none
      cases hE : rdEnd p x.2 with
      | none => rw [hE] at h; cases h
      | some rs =>
        unfold rdEnd at hE ⊢
        split at hE
        · rename_i hc2
          cases hR : rdRs p (leN (fieldOf p x.2 4)) (x.2 + 4) with
          | none => rw [hR] at hE; cases hE
          | some y =>
            rw [hR] at hE
            have hE : (if y.2 = p.length then some y.1 else none) = some rs := hE
            split at hE
            · rename_i hc3
              rw [if_pos (by rw [List.length_append]; omega), field_app hc2, rdRs_app _ _ hR]
              show (if y.2 = (p ++ q).length then some y.1 else none).map (fun rs => (⟨x.1, rs⟩ : Cd)) = none
              rw [if_neg (by rw [List.length_append]; omega)]; rfl
            · cases hE
        · cases hE
  · cases h
end
theorem read_cut {bs : List UInt8} {c : Cd} (h : readB bs = some c) {k : Nat} (hk : k < bs.length) : readB (bs.take k) = none := by
  cases hp : readB (bs.take k) with
  | none => rfl
  | some d =>
    have h2 := read_more hp (q := bs.drop k) (fun e => by have := congrArg List.length e; rw [List.length_drop] at this; simp at this; omega)
    rw [List.take_append_drop, h] at h2
    cases h2
end Go.Proofs.Ytimkiifcmegfeaa
