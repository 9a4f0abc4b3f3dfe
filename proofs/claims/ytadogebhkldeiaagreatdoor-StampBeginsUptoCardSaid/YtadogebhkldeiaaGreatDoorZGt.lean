/- stamp: what StampBegins' row lays; what came in. -/
import Derived.Test.YtadogebhkldeiaaGreatDoorZGs
import Derived.Test.YtadogebhkldeiaaGreatDoorCards
import Derived.Stop.LaidErr
import Derived.Lib.LaidIn
import Derived.Lib.LaidTab
import Derived.Shelf.Vars
import Derived.ProofKit
namespace Go.Proofs.YtadogebhkldeiaaGreatDoor
open Go.RowKit Go.ChangeShapes Go.WideShapes Go.ChangeAt
set_option linter.unusedVariables false
/-- The sentinel and the tables stand. -/
def Tab2 (w : World) : Prop := ∃ e0, w.cell? ⟨0, 0, none⟩ = some (errv e0) ∧ NumK w.heap.size w
theorem starE : "*" ++ "errors.errorString" = "*errors.errorString" := by decide
theorem rowE (u : TypeId) (h : Tryz.prog.typeName? 3 u = some "*errors.errorString") : u = 161 :=
  typeName_ptr_named (nm := "errors.errorString") (by rw [starE]; kernel_rfl) (by kernel_rfl) (by decide) u (by rw [starE]; exact h)
theorem gPow : Tryz.prog.globalNamed "internal/strconv.uint64pow10" = some 4 := by kernel_rfl
theorem gPowType : (Tryz.prog.globals[4]?).map (·.type) = some 151 := by kernel_rfl
theorem cellsPow : Tryz.prog.cellsOf 151 = 20 := by kernel_rfl
theorem cellsU64 : Tryz.prog.cellsOf 71 = 1 := by kernel_rfl
set_option maxRecDepth 100000 in
theorem tab2_of {W : World} (h : laidMet Tryz.prog Rows.stampBeginsUptoRow.laid W) (hs : W.ShapedOpen Tryz.prog) : Tab2 W := by
  obtain ⟨a0, s0, hv0, _⟩ := laid_sentinel (g := 0) h.tail.tail.tail.tail (by kernel_rfl) (by kernel_rfl) Tryz.underlying52 rowE Tryz.underlying161 Tryz.underlying184 rfl rfl Tryz.underlying9 (by kernel_rfl) (by kernel_rfl)
  have htab : Lib.TabIs Tryz.prog W "internal/strconv.uint64pow10" .u64 Lib.pow10Tab := Lib.tabIs_of_head (zs := Lib.pow10Tab) gPow gPowType Tryz.underlying151 Tryz.underlying71 cellsU64 cellsPow h.tail.tail
  obtain ⟨m, hm⟩ := cell_of_shapedOpen_int (g := 1) (t := 3) (zero := #[.int .i64 0]) hs (by decide +kernel) (by kernel_rfl) rfl (by kernel_rfl) (by kernel_rfl) Tryz.underlying3
  have c0 := htab.cell gPow 0 (by decide)
  exact ⟨a0, by simpa [errv] using World.var?_cell (show Tryz.prog.globalNamed "aumbry/stamp.errKept" = some 0 by kernel_rfl) hv0 0, World.block_lt_of_cell? W _ hm, World.block_lt_of_cell? W _ c0, htab, ⟨m, hm⟩⟩
abbrev zeroTyV : Value := .agg #[.int .u8 0, .string ⟨#[]⟩, .int .i64 0, .slice none 0 0]
def litsOf (l : List (DataW Unit)) : List Value := l.filterMap fun
  | .lit (.int k n) => some (.int k n)
  | _ => none
def cellsOf1 : DataW Unit → Array Value
  | .agg l => (litsOf l).toArray
  | _ => #[]
def cellsOf2 : DataW Unit → Array Value
  | .agg l => (l.flatMap fun
    | .agg r => litsOf r
    | _ => []).toArray
  | _ => #[]
/-- The settled world, in which all is laid. -/
noncomputable def laidW (os : Os) : World :=
  let N := (World.settled Tryz.prog os).heap.size
  let w0 := World.holding Tryz.prog os ⟨#[.cells #[.string ⟨#[115, 116, 97, 109, 112, 58, 32, 97, 32, 116, 121, 112, 101, 32, 116, 104, 97, 116, 32, 109, 97, 121, 32, 110, 111, 116, 32, 98, 101, 32, 107, 101, 112, 116]⟩] 184], #[], []⟩
  let put (h : Array Obj) (g : Nat) (cs : Array Value) : Array Obj := h.modify g fun
    | .cells _ t frozen => .cells cs t frozen
    | o => o
  let h0 := put w0.heap 0 #[.iface 161 (.pointer (some ⟨N, 0, none⟩))]
  let h1 := put h0 2 (cellsOf1 Rows.laid_unicode_utf8_first)
  let h2 := put h1 3 (cellsOf2 Rows.laid_unicode_utf8_acceptRanges)
  let h3 := put h2 4 (cellsOf1 Rows.laid_internal_strconv_uint64pow10)
  let h4 := put h3 5 (cellsOf1 Rows.laid_math_bits_deBruijn32tab)
  let h5 := put h4 6 (cellsOf1 Rows.laid_math_bits_deBruijn64tab)
  { w0 with heap := h5 }
set_option maxRecDepth 100000 in
/-- A type that came in. -/
theorem opened_ty {H : Type} {enc : TypeId × Value → H} {W : World} {v : Value} {d : DataW H} {p : List MemPlace} (hok : Value.okWide Tryz.prog W .any 0 24 v)
    (h : DataW.Trod enc Tryz.prog W 0 (fun _ => true) true 24 v d p) : ∃ e : Te, v = e.t.val e.A e.c ∧ e.in_ (fun b => b < W.heap.size) W ∧ bT e.t ≤ Rows.uptoBulk d := by
  obtain ⟨cs, rfl, hcz⟩ := okWide_struct Tryz.underlying24 hok
  obtain ⟨fuel, hf⟩ := h
  have hC : Tryz.prog.cellsOf 24 = 4 := by kernel_rfl
  rw [hC] at hcz
  obtain ⟨e, he, hin, hb⟩ := ty_in fuel cs.toList _ (by simpa using hcz) (by simpa [Value.cells] using hf)
  exact ⟨e, by rw [show cs = cs.toList.toArray by simp, he]; rfl, hin, hb⟩
set_option maxRecDepth 100000 in
/-- Declarations that came in. -/
theorem opened_ds {H : Type} {enc : TypeId × Value → H} {W : World} {v : Value} {d : DataW H} {p : List MemPlace} (hok : Value.okWide Tryz.prog W .any 0 25 v)
    (h : DataW.Trod enc Tryz.prog W 0 (fun _ => true) true 25 v d p) : ∃ (A : Option Addr) (len cap : Nat) (ds : List Dc), v = .slice A len cap ∧ ds.length = len ∧ len ≤ cap ∧ (A = none → cap = 0) ∧ DsAt (fun b => b < W.heap.size) W A ds ∧ (ds.map bD).sum ≤ Rows.uptoBulk d := by
  obtain ⟨a0, len0, cap0, rfl⟩ := okWide_slice Tryz.underlying25 hok
  obtain ⟨fuel, hf⟩ := h
  have hC : Tryz.prog.cellsOf 42 = 16 := by kernel_rfl
  obtain ⟨A, len, cap, l, e, h1, h2, _, h4, h5, ks, h6, h7, h8⟩ := rows_in (α := Dc) Tryz.underlying25 hC (by decide) Dc.cells dcells_len (fun d k => d.In W ∧ bD d ≤ Rows.uptoBulk k) (fun n _ cs y => dec_in n cs y) (show DataW.trod enc Tryz.prog W 0 (fun _ => true) true fuel 25 [.slice a0 len0 cap0] = some (d, p) by simpa [Value.cells] using hf)
  refine ⟨A, len, cap, l, e, h1, h2, h4, fun r x hx => ?_, ?_⟩
  · obtain ⟨b, off, e1, hlt, hc⟩ := h5 r x hx
    obtain ⟨k, hk⟩ : ∃ k, ks[r]? = some k := ⟨_, List.getElem?_eq_getElem (by rw [← h6]; exact (List.getElem?_eq_some_iff.1 hx).1)⟩
    have hin := (h8 r x k hx hk).1
    exact ⟨b, off, e1, hlt, hlt, hc, hin.1, hin.2.1⟩
  · have := sum_bulk bD l ks h6 fun r a k ha hk => (h8 r a k ha hk).2
    have h7 : Rows.uptoBulkAll ks + 1 ≤ Rows.uptoBulk d := h7
    omega
theorem begins_tab {H : Type} {W : World} {v0 v1 : Value} {d0 d1 : DataW H} (ht : Tab2 W) (h0 : ∃ e : Te, v0 = e.t.val e.A e.c ∧ e.in_ (fun b => b < W.heap.size) W ∧ bT e.t ≤ Rows.uptoBulk d0)
    (h1 : ∃ (A : Option Addr) (len cap : Nat) (ds : List Dc), v1 = .slice A len cap ∧ ds.length = len ∧ len ≤ cap ∧ (A = none → cap = 0) ∧ DsAt (fun b => b < W.heap.size) W A ds ∧ (ds.map bD).sum ≤ Rows.uptoBulk d1)
    (hk : Rows.uptoBulk d0 + Rows.uptoBulk d1 ≤ 1048576) :
    Calls Tryz.prog 3 #[v0, v1] W fun e w' => e = .returned (.bool true) ∧ Below W.heap.size W w' := by
  obtain ⟨e0, herr, hnm⟩ := ht
  obtain ⟨⟨t, A, c⟩, rfl, hT, hbT⟩ := h0
  obtain ⟨dA, dn, dc, ds, rfl, a1, a2, a3, a4, a5⟩ := h1
  have hbT : bT t ≤ Rows.uptoBulk d0 := hbT
  exact begins_law t A c ds dA dn dc a1 e0 W herr hnm hT a4 (by omega)
end Go.Proofs.YtadogebhkldeiaaGreatDoor
