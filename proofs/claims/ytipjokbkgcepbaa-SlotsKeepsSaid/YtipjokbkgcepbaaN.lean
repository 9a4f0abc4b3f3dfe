/- Pages that are made, apart from memory. -/
import Derived.Test.YtipjokbkgcepbaaM
namespace Slt

theorem trim_length_le : ∀ l : List (List UInt8), (trim l).length ≤ l.length
  | [] => Nat.le_refl _
  | r :: l => by
    have h := trim_length_le l
    unfold trim
    cases e : trim l with
    | nil => simp only; split <;> simp
    | cons s m => rw [e] at h; simpa using h
theorem last_cases (l : List (List UInt8)) : l = [] ∨ ∃ m r, l = m ++ [r] := by
  rcases List.eq_nil_or_concat l with e | ⟨m, r, e⟩
  · exact .inl e
  · exact .inr ⟨m, r, by simpa using e⟩
/-- No free slot at the end. -/
def Full (l : List (List UInt8)) : Prop := l = [] ∨ ∃ m r, l = m ++ [r] ∧ 0 < r.length
theorem Full.trim {l : List (List UInt8)} (h : Full l) : Slt.trim l = l := by
  rcases h with rfl | ⟨m, r, rfl, hr⟩
  · rfl
  · exact trim_snoc m r hr
theorem full_of_trim {l : List (List UInt8)} (h : trim l = l) : Full l := by
  rcases last_cases l with e | ⟨m, r, rfl⟩
  · exact .inl e
  · refine .inr ⟨m, r, rfl, ?_⟩
    rcases Nat.eq_zero_or_pos r.length with h0 | h0
    · rw [List.eq_nil_of_length_eq_zero h0, trim_snoc_nil] at h
      have := trim_length_le m
      rw [h] at this
      simp at this
      omega
    · exact h0
theorem trim_full : ∀ n (l : List (List UInt8)), l.length = n → Full (trim l)
  | 0, l, h => by rw [List.eq_nil_of_length_eq_zero h]; exact .inl rfl
  | n + 1, l, h => by
    rcases last_cases l with e | ⟨m, r, rfl⟩
    · rw [e] at h; simp at h
    · rcases Nat.eq_zero_or_pos r.length with h0 | h0
      · rw [List.eq_nil_of_length_eq_zero h0, trim_snoc_nil]
        exact trim_full n m (by simp at h; omega)
      · rw [trim_snoc m r h0]; exact .inr ⟨m, r, rfl, h0⟩
theorem trim_get (l : List (List UInt8)) (k : Nat) (r : List UInt8) (hr : 0 < r.length) : (trim l)[k]? = some r ↔ l[k]? = some r := by
  suffices h : ∀ n (l : List (List UInt8)), l.length = n → ((trim l)[k]? = some r ↔ l[k]? = some r) from h _ l rfl
  intro n
  induction n with
  | zero => intro l h; rw [List.eq_nil_of_length_eq_zero h]; exact Iff.rfl
  | succ n ih =>
    intro l h
    rcases last_cases l with e | ⟨m, s, rfl⟩
    · rw [e] at h; simp at h
    · rcases Nat.eq_zero_or_pos s.length with h0 | h0
      · have hs := List.eq_nil_of_length_eq_zero h0
        subst hs
        rw [trim_snoc_nil, ih m (by simp at h; omega)]
        rcases Nat.lt_or_ge k m.length with hk | hk
        · rw [List.getElem?_append_left hk]
        · rw [List.getElem?_eq_none hk]
          constructor
          · intro e; cases e
          · intro e
            rw [List.getElem?_append_right hk] at e
            have : k - m.length = 0 := by have := (List.getElem?_eq_some_iff.1 e).1; simp at this; omega
            rw [this] at e; simp at e; rw [e] at hr; simp at hr
      · rw [trim_snoc m s h0]
theorem flatten_trim (l : List (List UInt8)) : (trim l).flatten = l.flatten := by
  suffices h : ∀ n (l : List (List UInt8)), l.length = n → (trim l).flatten = l.flatten from h _ l rfl
  intro n
  induction n with
  | zero => intro l h; rw [List.eq_nil_of_length_eq_zero h]; rfl
  | succ n ih =>
    intro l h
    rcases last_cases l with e | ⟨m, s, rfl⟩
    · rw [e] at h; simp at h
    · rcases Nat.eq_zero_or_pos s.length with h0 | h0
      · rw [List.eq_nil_of_length_eq_zero h0, trim_snoc_nil, ih m (by simp at h; omega)]; simp
      · rw [trim_snoc m s h0]

theorem mem_len_le : ∀ (l : List (List UInt8)) (r : List UInt8), r ∈ l → r.length ≤ l.flatten.length
  | [], r, h => by cases h
  | s :: l, r, h => by
    rcases List.mem_cons.1 h with rfl | h
    · simp
    · have := mem_len_le l r h; rw [List.flatten_cons, List.length_append]; omega
theorem sumL_lenB : ∀ (l : List (List UInt8)), (∀ r ∈ l, r.length < 256) → sumL (lenB l) = l.flatten.length
  | [], _ => rfl
  | r :: l, h => by
    have h1 := sumL_lenB l (fun s hs => h s (List.mem_cons_of_mem _ hs))
    have h2 := h r List.mem_cons_self
    simp only [lenB, List.map_cons, sumL, List.flatten_cons, List.length_append] at h1 ⊢
    rw [h1, UInt8.toNat_ofNat', Nat.mod_eq_of_lt h2]
theorem recsOf_lenB : ∀ (l : List (List UInt8)), (∀ r ∈ l, r.length < 256) → recsOf (lenB l) l.flatten = l
  | [], _ => rfl
  | r :: l, h => by
    have h1 := recsOf_lenB l (fun s hs => h s (List.mem_cons_of_mem _ hs))
    have h2 := h r List.mem_cons_self
    have e : (UInt8.ofNat r.length).toNat = r.length := by rw [UInt8.toNat_ofNat', Nat.mod_eq_of_lt h2]
    simp only [lenB, List.map_cons, recsOf, List.flatten_cons, e, List.take_left', List.drop_left'] at h1 ⊢
    simp [h1]

theorem cnt_pack {l : List (List UInt8)} (h : l.length < 256) : cnt (pack l) = l.length := by
  simp [cnt, pack, List.getD]
  omega
theorem lens_pack {l : List (List UInt8)} (h : l.length < 256) : lens (pack l) = lenB l := by
  unfold lens
  rw [cnt_pack h]
  simp [pack, List.take_left', lenB]
theorem body_pack {l : List (List UInt8)} (h : l.length < 256) : body (pack l) = l.flatten := by
  unfold body
  rw [cnt_pack h, show 1 + l.length = l.length + 1 by omega]
  simp [pack, lenB, List.drop_left']
theorem pack_ok {l : List (List UInt8)} (hf : Full l) (hs : (pack l).length ≤ 248) : Ok (pack l) ∧ recs (pack l) = l := by
  have hlen := pack_length l
  have hl : l.length < 256 := by omega
  have hr : ∀ r ∈ l, r.length < 256 := fun r h => by have := mem_len_le l r h; omega
  have hok : Ok (pack l) := by
    refine ⟨by omega, hs, by rw [cnt_pack hl]; omega, fun h0 => ?_, by rw [cnt_pack hl, lens_pack hl, sumL_lenB l hr]; omega⟩
    rw [cnt_pack hl] at h0 ⊢
    rcases hf with rfl | ⟨m, r, rfl, hr0⟩
    · simp at h0
    · have e : (pack (m ++ [r]))[(m ++ [r]).length]? = some (UInt8.ofNat r.length) := by
        simp [pack, lenB]
      unfold List.getD
      rw [e]
      intro e2
      have h2 := hr r (by simp)
      have := congrArg UInt8.toNat e2
      rw [show (some (UInt8.ofNat r.length)).getD 0 = UInt8.ofNat r.length from rfl, UInt8.toNat_ofNat', Nat.mod_eq_of_lt h2] at this
      simp at this
      rw [this] at hr0
      simp at hr0
  exact ⟨hok, by rw [recs_ok hok, lens_pack hl, body_pack hl, recsOf_lenB l hr]⟩
theorem page_ok {l : List (List UInt8)} (hs : (pageOf l).length ≤ 248) : Ok (pageOf l) ∧ recs (pageOf l) = trim l := pack_ok (trim_full _ l rfl) hs
theorem page_length (l : List (List UInt8)) : (pageOf l).length = 1 + (trim l).length + l.flatten.length := by unfold pageOf; rw [pack_length, flatten_trim]
theorem Ok.len {p : List UInt8} (h : Ok p) : p.length = 1 + cnt p + (recs p).flatten.length := by
  conv => lhs; rw [← h.pack]
  rw [pack_length, recs_length h]
end Slt
