/- cover: Check, its first loop. -/
import Derived.Test.YtigaondgopahgaaIn
namespace Go.Proofs.Ytigaondgopahgaa
open Go.RowKit Ty
set_option linter.unusedVariables false
set_option linter.unusedSimpArgs false
attribute [local go_sem] Oper.semAt_some
/-- How far the first loop of Check has come. -/
structure CkI (w wr : World) (base b1 b2 qa : Nat) (l : List Inf) : Prop where
  bel : Below w.heap.size w wr
  ask : ∃ n, n ≤ l.length ∧ AskB base wr b1 b2 n l
  box : Blk wr qa 57 #[.map (some b1), .map (some b2)]
  lo1 : w.heap.size ≤ b1
  lo2 : w.heap.size ≤ b2
  qb : qa < base
  q1 : qa ≠ b1
  q2 : qa ≠ b2
  lo3 : w.heap.size ≤ qa
theorem CkI.bel' {w wr w' : World} {base b1 b2 qa : Nat} {l : List Inf} (h : CkI w wr base b1 b2 qa l) (hb : Below wr.heap.size wr w') : CkI w w' base b1 b2 qa l := by
  obtain ⟨h1, ⟨n, hn, h2⟩, h3, h4, h5, h6, h7, h8, h9⟩ := h
  exact ⟨h1.trans (hb.mono h1.size), ⟨n, hn, h2.bel hb⟩, h3.below hb h3.lt, h4, h5, h6, h7, h8, h9⟩
theorem CkI.start {w w1 w2 w3 w4 : World} (hb1 : Below w.heap.size w w1) (h2 : w1.alloc (.map #[] 0) = w2) (h3 : w2.alloc (.map #[] 0) = w3) (h4 : w3.alloc (.cells #[.map (some w1.heap.size), .map (some w2.heap.size)] 57) = w4) : CkI w w4 (w3.heap.size + 1) w1.heap.size w2.heap.size w3.heap.size [] := by
  have s2 : w2.heap.size = w1.heap.size + 1 := by rw [← h2]; simp
  have s3 : w3.heap.size = w2.heap.size + 1 := by rw [← h3]; simp
  have s4 : w4.heap.size = w3.heap.size + 1 := by rw [← h4]; simp
  have b2 : Below w1.heap.size w1 w2 := by rw [← h2]; exact (Below.refl _ _).alloc (Nat.le_refl _) _
  have b3 : Below w2.heap.size w2 w3 := by rw [← h3]; exact (Below.refl _ _).alloc (Nat.le_refl _) _
  have b4 : Below w3.heap.size w3 w4 := by rw [← h4]; exact (Below.refl _ _).alloc (Nat.le_refl _) _
  have m1 : SMap w2 w1.heap.size 0 (fun _ => none) := by rw [← h2]; exact SMap.made w1
  have m2 : SMap w3 w2.heap.size 0 (fun _ => none) := by rw [← h3]; exact SMap.made w2
  have hs := hb1.size
  refine ⟨hb1.trans ((b2.trans ((b3.trans (b4.mono (by omega))).mono (by omega))).mono hs), ⟨0, Nat.le_refl _, ⟨⟨fun _ => (0, 0), ?_⟩, ⟨fun _ => .nilFunc, ?_, fun s h => absurd rfl h, fun s s' _ h => absurd rfl h⟩, by omega, by omega, by omega, by omega⟩⟩, by rw [← h4]; exact Blk.new _ _ _, by omega, by omega, by omega, by omega, by omega, by omega⟩
  · exact (m1.bel b3).bel b4
  · exact m2.bel b4
theorem ofOf_len {F : Nat → Prop} {w : World} {A : Option Addr} {n c : Nat} {xs : List InfX} (h : IAt F w A n c xs) (s : List UInt8) : (ofOf (xs.map InfX.i) s).length ≤ maxLen := by
  unfold ofOf
  cases e : inf (xs.map InfX.i) s with
  | none => exact Nat.zero_le _
  | some i =>
    have hm := List.mem_of_find?_eq_some e
    obtain ⟨x, hx, rfl⟩ := List.mem_map.1 hm
    obtain ⟨r, hr⟩ := List.getElem?_of_mem hx
    obtain ⟨_, _, _, _, _, _, _, hof⟩ := h.at_ r x hr
    exact hof
theorem At_single {F : Nat → Prop} {w : World} {g : Nat} {p : Ty} {A' : Option Addr} {c' tl : Nat} (h : Blk w g 40 #[.int .u8 (p.k : Int), .string (str p.nm), .int .i64 p.n, .slice A' tl c']) (htl : p.ks.length = tl) (hk : Ty.At F w A' p.ks) (hok : p.ok) (hl : p.ks.length ≤ c') (hc : c' ≤ maxLen) (hF : F g) : Ty.At F w (some ⟨g, 0, none⟩) [p] := by
  refine .mk g 0 [p] (fun _ => A') (fun _ => c') hF h.lt (fun r t ht => ?_) fun r t ht => ?_
  · have hr : r = 0 := by have := (List.getElem?_eq_some_iff.1 ht).1; simpa using this
    subst hr
    obtain rfl : p = t := by simpa using ht
    refine ⟨fun j v hj => ?_, hok, hl, hc⟩
    rw [Nat.zero_mul, Nat.add_zero, Nat.zero_add, h.cell j]
    have e : p.cells A' c' = [.int .u8 (p.k : Int), .string (str p.nm), .int .i64 p.n, .slice A' tl c'] := by rw [← htl]; rfl
    rw [e] at hj
    have hjl : j < 4 := (List.getElem?_eq_some_iff.1 hj).1
    match j, hjl with
    | 0, _ => exact hj
    | 1, _ => exact hj
    | 2, _ => exact hj
    | 3, _ => exact hj
  · have hr : r = 0 := by have := (List.getElem?_eq_some_iff.1 ht).1; simpa using this
    subst hr
    obtain rfl : p = t := by simpa using ht
    exact hk
mutual
theorem wt_le : ∀ p : Ty, wt p + 1 ≤ 2 * parts p
  | .node k nm n ks => by
    have := wts_le ks
    rw [wt, parts]
    split
    · omega
    · omega
theorem wts_le : ∀ ts : List Ty, wts ts + ts.length ≤ 2 * partss ts
  | [] => by simp [wts]
  | t :: ts => by
    have := wt_le t
    have := wts_le ts
    rw [wts, partss, List.length_cons]
    omega
end
theorem wtss_single : ∀ ts : List Ty, wtss (ts.map fun p => [p]) = wts ts
  | [] => by simp [wtss, wts]
  | t :: ts => by rw [List.map_cons, wtss, wtss_single ts, wts, wts, wts]; rfl
theorem each_prefix {l : List Inf} {ps : List Ty} {k : Nat} (h : eachOf l [] (ps.take k) = false) : eachOf l [] ps = false := by
  rw [← List.take_append_drop k ps, eachOf_append, h]; rfl
theorem each_snoc {l : List Inf} {ps : List Ty} {j : Nat} {p : Ty} (hp : ps[j]? = some p) : eachOf l [] (ps.take (j + 1)) = (eachOf l [] (ps.take j) && useful l ((ps.take j).map fun p => [p]) [p]) := by
  rw [List.take_add_one, hp]
  show eachOf l [] (ps.take j ++ [p]) = _
  rw [eachOf_append, List.nil_append]
  simp [eachOf]
end Go.Proofs.Ytigaondgopahgaa
