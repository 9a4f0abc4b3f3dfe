/- cover: useful of a wild one, what it leans on. -/
import Derived.Test.YtigaondgopahgaaU
namespace Go.Proofs.Ytigaondgopahgaa
open Go.RowKit Ty
set_option linter.unusedVariables false
set_option linter.unusedSimpArgs false
/-- The first ones of rows, as they are collected. -/
structure CoI (w wr : World) (rows : List (List Ty)) (i : Nat) (lv : Value) (es : List Te) : Prop where
  bel : Below w.heap.size w wr
  own : PtO (fun b => b < w.heap.size) w.heap.size wr lv es
  is : es.map Te.t = (rows.take i).filterMap List.head?
theorem Ty.At.ok_mem {F : Nat → Prop} {w : World} {A : Option Addr} {ts : List Ty} (h : Ty.At F w A ts) {t : Ty} (ht : t ∈ ts) : t.ok := by
  obtain ⟨r, hr⟩ := List.getElem?_of_mem ht
  obtain ⟨_, _, _, _, _, _, _, _, _, _, _, hok, _⟩ := h.get hr
  exact hok
theorem head_nm {p : Ty} (h : p.ok) : p.head.nm.length ≤ maxLen := by
  unfold Ty.head
  show (if p.k = 6 then p.nm else []).length ≤ _
  split
  · exact h.2.2
  · exact Nat.zero_le _
theorem whole_any {F : Nat → Prop} {l : List Inf} {b1 b2 en : Nat} (hs : List Head) (A : Option Addr) (c : Nat) (w : World) (hA : HAt w A hs) (hc : hs.length ≤ c) (hm : c ≤ maxLen) (hl : ∀ h ∈ hs, h.nm.length ≤ maxLen) (hol : ∀ s, (ofOf l s).length ≤ maxLen) (hS : Ask F w b1 b2 en l) :
    Calls Try.prog 31 #[.agg #[.map (some b1), .map (some b2)], .slice A hs.length c] w fun e w' => e = .returned (.bool (wholeOf l hs)) ∧ Below w.heap.size w w' := by
  cases hs with
  | nil => exact whole_nil l A c w
  | cons h hs =>
    by_cases h6 : h.k = 6
    · exact whole_six h hs A c w hA hc hm (hl h List.mem_cons_self) (hol _) hS h6
    · exact whole_cons h hs A c w hA hc hm (hl h List.mem_cons_self) (hol _) hS h6
/-- One more of the first ones. -/
theorem CoI.next {w wr w6 : World} {rows : List (List Ty)} {i : Nat} {lv : Value} {es : List Te} {row : List Ty} {x : Ty} {y : List Ty} {A' : Option Addr} {c' tl : Nat} {ad : Option Addr} {rc : Nat} (h : CoI w wr rows i lv es) (hrow : rows[i]? = some row) (hx : row = x :: y) (hP : PAt Everywhere w ad row.length rc row) (hn : rows.length ≤ 1000)
    (hb : Below wr.heap.size wr w6) (hB : Blk w6 wr.heap.size 40 #[.int .u8 (x.k : Int), .string (str x.nm), .int .i64 x.n, .slice A' tl c']) (htl : x.ks.length = tl) (hA : Ty.At Everywhere w A' x.ks) (hlc : x.ks.length ≤ c') (hcm : c' ≤ maxLen) (hok : x.ok) :
    ∃ A3 c3 w7, (Builtin.append_ #[22, 22] 22 #[lv, .slice (some ⟨wr.heap.size, 0, none⟩) 1 1]).run Try.prog w6 = .ok (.slice A3 (es.length + 1) c3) w7 ∧ CoI w w7 rows (i + 1) (.slice A3 (es.length + 1) c3) (es ++ [⟨x, A', c'⟩]) := by
  have hO := h.own.below hb
  have hes : es.length ≤ 1000 := by
    have h1 := congrArg List.length h.is
    rw [List.length_map] at h1
    have h2 := fm_len List.head? (rows.take i)
    rw [List.length_take] at h2
    omega
  obtain ⟨v', w7, hrun, hO2, hgr⟩ := hO.app (by have := h.bel.size; have := hb.size; omega) [⟨x, A', c'⟩] ⟨wr.heap.size, 0, none⟩ 1 1 rfl (fun j u hj => by
    have e : flatE [⟨x, A', c'⟩] = [.int .u8 (x.k : Int), .string (str x.nm), .int .i64 x.n, .slice A' tl c'] := by rw [← htl]; rfl
    rw [e] at hj
    rw [add_off, Nat.zero_add, hB.cell j]
    have hjl : j < 4 := (List.getElem?_eq_some_iff.1 hj).1
    match j, hjl with
    | 0, _ => exact hj
    | 1, _ => exact hj
    | 2, _ => exact hj
    | 3, _ => exact hj) (fun e he => by
    rw [List.mem_singleton.1 he]
    exact ⟨((hA.bnd.off (Off.of_new (h.bel.trans (hb.mono h.bel.size)) (fun _ => False)) (fun _ _ h => h)).mono fun k hk => ⟨hk.2, fun e2 => by have := (h.own.own.lt k e2).1; have := hk.2; omega⟩), hok, hlc, hcm⟩) (by omega)
  obtain ⟨A3, c3, rfl, _⟩ := hO2.shape
  rw [List.length_append, List.length_singleton] at hrun hO2
  refine ⟨A3, c3, w7, hrun, ⟨(h.bel.trans (hb.mono h.bel.size)).trans (hO.bel hgr (Nat.le_refl _) (by have := h.bel.size; have := hb.size; omega)), hO2, ?_⟩⟩
  rw [List.map_append, h.is, fm_snoc _ _ _ _ hrow, hx]
  rfl
end Go.Proofs.Ytigaondgopahgaa
