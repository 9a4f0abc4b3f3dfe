/- What the row's list gives: both tables lie as their text lays them. -/
import Derived.Test.YtdnmdccjecoojaaDoorRows
import Derived.Test.YtdnmdccjecoojaaDoorD
import Derived.Deep.DeepHandedRow
import Derived.Stop.LaidErr
namespace Go.Proofs.YtdnmdccjecoojaaDoor
open Go.RowKit Go.ChangeShapes Go.WideShapes Go.ChangeAt Tok
theorem gWords : Tryd.prog.globalNamed "aumbry/token.words" = some 0 := by kernel_rfl
theorem gSigns : Tryd.prog.globalNamed "aumbry/token.signs" = some 1 := by kernel_rfl
theorem gWordsT : (Tryd.prog.globals[0]?).map (·.type) = some 45 := by kernel_rfl
theorem gSignsT : (Tryd.prog.globals[1]?).map (·.type) = some 45 := by kernel_rfl
theorem cellsA : Tryd.prog.cellsOf 45 = 22 := by kernel_rfl
theorem cellsS : Tryd.prog.cellsOf 9 = 1 := by kernel_rfl
theorem cells_of_strs {H : Type} {enc : TypeId × Value → H} {P : Program} {w : World} {base : Nat} {sp : Nat → Bool} {held : Bool} {fuel : Nat} {t e : TypeId} {n : Nat} {cs : List Value} {ls : List (List UInt8)} {p : List MemPlace}
    (ht : P.underlying t = some (.array n e)) (he : P.underlying e = some .string) (hce : P.cellsOf e = 1) (hct : P.cellsOf t = n)
    (h : DataW.trod enc P w base sp held fuel t cs = some (.agg (ls.map fun l => .lit (.string l)), p)) : cs = ls.map strV := by
  cases fuel with
  | zero => simp [DataW.trod] at h
  | succ fuel =>
    simp only [DataW.trod, ht, hce, hct, Nat.mul_one] at h
    split at h
    · rename_i hl
      obtain ⟨xs, hm, hx⟩ := Option.map_eq_some_iff.1 h
      have hxs : xs.map (·.1) = ls.map fun l => (DataW.lit (.string l) : DataW H) := by
        have := congrArg Prod.fst hx
        simpa using this
      have hxl : xs.length = n := by simpa using Lib.mapM_length hm
      have hzl : ls.length = n := by
        have := congrArg List.length hxs
        simp at this
        omega
      apply List.ext_getElem?
      intro i
      by_cases hi : i < n
      · obtain ⟨b, hb, hf⟩ := Lib.mapM_at hm i i (by simp [hi])
        obtain ⟨s, hc, rfl, _⟩ := DataW.trod_string he hf
        have h1 : cs[i]? = some (.string s) := by
          have := congrArg (·[0]?) hc
          simpa [List.getElem?_take, List.getElem?_drop] using this
        have h2 : (xs.map (·.1))[i]? = some (DataW.lit (.string s.data.toList) : DataW H) := by simp [hb]
        rw [hxs] at h2
        simp only [List.getElem?_map, Option.map_eq_some_iff, DataW.lit.injEq, Lit.string.injEq] at h2
        obtain ⟨l, hl', e⟩ := h2
        rw [h1, List.getElem?_map, hl']
        show _ = some (strV l)
        unfold strV str
        rw [e]
      · rw [List.getElem?_eq_none (by omega), List.getElem?_eq_none (by simp; omega)]
    · cases h
theorem heap_of_var {P : Program} {w : World} {n : String} {g : Nat} {cs : Array Value} (hg : P.globalNamed n = some g) (h : w.var? P n = some cs) : ∃ t fr, w.heap[g]? = some (.cells cs t fr) := by
  simp only [World.var?, hg, Option.bind_some] at h
  split at h
  · rename_i cs' t fr hh
    cases h
    exact ⟨t, fr, hh⟩
  · cases h
theorem strs_of_head {P : Program} {W : World} {name : String} {ls : List (List UInt8)} {rest : List (String × DataW Unit)} {g : Nat} {t e : TypeId} {n : Nat}
    (hg : P.globalNamed name = some g) (hty : (P.globals[g]?).map (·.type) = some t) (ht : P.underlying t = some (.array n e)) (he : P.underlying e = some .string) (hce : P.cellsOf e = 1) (hct : P.cellsOf t = n)
    (h : laidMet P ((name, .agg (ls.map fun l => .lit (.string l))) :: rest) W) : ∃ t fr, W.heap[g]? = some (.cells (rowS ls) t fr) := by
  obtain ⟨ps, ⟨g', t', cs, fuel, p, q, hg', ht', hvar, hd, _, _⟩, _⟩ := h
  obtain rfl := Option.some.inj (hg.symm.trans hg')
  obtain rfl := Option.some.inj (hty.symm.trans ht')
  obtain ⟨t2, fr, hh⟩ := heap_of_var hg hvar
  refine ⟨t2, fr, ?_⟩
  have hcs := cells_of_strs ht he hce hct hd
  rw [hh]
  unfold rowS
  rw [← hcs]
theorem tab_of {W : World} (h : laidMetH Tryd.prog [("aumbry/token.words", Rows.laid_aumbry_token_words), ("aumbry/token.signs", Rows.laid_aumbry_token_signs)] W) : Tabs W := by
  have h1 : laidMet Tryd.prog [("aumbry/token.words", .agg (wordsL.map fun l => .lit (.string l))), ("aumbry/token.signs", .agg (signsL.map fun l => .lit (.string l)))] W := h
  exact ⟨strs_of_head gWords gWordsT Tryd.underlying45 Tryd.underlying9 cellsS cellsA h1, strs_of_head gSigns gSignsT Tryd.underlying45 Tryd.underlying9 cellsS cellsA (laidMet.tail h1)⟩
end Go.Proofs.YtdnmdccjecoojaaDoor
