/- cache: which sectors are pinned, apart from memory. -/
import Derived.Test.YtiemfhncadcemaaCx
namespace Go.Proofs.Ytiemfhncadcemaa
open Go.RowKit Dsk
/-- How often each sector is pinned. -/
structure Pn (P : Nat → Nat) (L : List Fr) : Prop where
  at_ : ∀ x ∈ L, x.pins = P x.s
  has : ∀ s, P s ≠ 0 → ∃ x ∈ L, x.s = s
def putP (P : Nat → Nat) (s v : Nat) : Nat → Nat := fun j => if j = s then v else P j
section
variable {nn most t s : Nat} {D D' : DS} {L L' : List Fr} {y : Fr} {P : Nat → Nat}
theorem Pn.nil : Pn (fun _ => 0) [] := ⟨(fun x hx => by cases hx), fun s h => absurd rfl h⟩
theorem Pn.room (h : Pn P L) (hr : Room most D L D' L') : Pn P L' := by
  rcases hr with ⟨_, rfl, rfl⟩ | ⟨_, x, hx, hp, rfl, rfl⟩
  · exact h
  · refine ⟨fun z hz => h.at_ z (delL_mem.1 hz).1, fun s hs => ?_⟩
    obtain ⟨z, hz, rfl⟩ := h.has s hs
    refine ⟨z, delL_mem.2 ⟨hz, fun e => hs ?_⟩, rfl⟩
    rw [e, ← h.at_ x hx, hp]
theorem Pn.add (h : Pn P L) (hno : ∀ x ∈ L, x.s ≠ y.s) (hp : y.pins = 0) : Pn P (L ++ [y]) := by
  have h0 : P y.s = 0 := by
    by_cases e : P y.s = 0
    · exact e
    · obtain ⟨z, hz, e'⟩ := h.has _ e
      exact absurd e' (hno z hz)
  refine ⟨fun z hz => ?_, fun s hs => ?_⟩
  · rcases List.mem_append.1 hz with hz | hz
    · exact h.at_ z hz
    · rw [List.mem_singleton.1 hz, hp, h0]
  · obtain ⟨z, hz, e⟩ := h.has s hs
    exact ⟨z, List.mem_append.2 (.inl hz), e⟩
theorem Pn.upd (h : Pn P L) (hy : ∃ x ∈ L, x.s = y.s) : Pn (putP P y.s y.pins) (updL y L) := by
  refine ⟨fun z hz => ?_, fun s hs => ?_⟩
  · rcases updL_mem hz with ⟨rfl, _⟩ | ⟨hz, hne⟩
    · unfold putP; rw [if_pos rfl]
    · unfold putP; rw [if_neg hne]; exact h.at_ z hz
  · by_cases e : s = y.s
    · exact ⟨y, updL_yes hy, e.symm⟩
    · unfold putP at hs
      rw [if_neg e] at hs
      obtain ⟨z, hz, rfl⟩ := h.has s hs
      exact ⟨z, List.mem_map.2 ⟨z, hz, by rw [if_neg e]⟩, rfl⟩
theorem putP_same (P : Nat → Nat) (s v : Nat) (h : P s = v) : putP P s v = P := by
  funext j
  unfold putP
  split
  · rename_i e; rw [e, h]
  · rfl
theorem Pn.updSame (h : Pn P L) {x : Fr} (hx : x ∈ L) (hs : y.s = x.s) (hp : y.pins = x.pins) : Pn P (updL y L) := by
  have := h.upd (y := y) ⟨x, hx, hs.symm⟩
  rw [putP_same P y.s y.pins (by rw [hs, hp]; exact (h.at_ x hx).symm)] at this
  exact this
theorem Room.sub (h : Room most D L D' L') : ∀ x ∈ L', x ∈ L := by
  rcases h with ⟨_, rfl, rfl⟩ | ⟨_, x, hx, hp, rfl, rfl⟩
  · exact fun x h => h
  · exact fun y hy => (delL_mem.1 hy).1
theorem Pn.brought (h : Pn P L) (hb : Brought most D L s D' L' y) : Pn P L' ∧ y.pins = P s := by
  rcases hb with ⟨x, hx, rfl, ey, rfl, rfl⟩ | ⟨hno, L1, hr, ey, rfl⟩
  · have e1 : y.s = x.s := by rw [ey]
    have e2 : y.pins = x.pins := by rw [ey]
    exact ⟨h.updSame hx e1 e2, by rw [e2]; exact h.at_ x hx⟩
  · have e1 : y.s = s := by rw [ey]
    have e2 : y.pins = 0 := by rw [ey]
    have h1 := (h.room hr).add (y := y) (fun x hx => by rw [e1]; exact hno x (hr.sub x hx)) e2
    exact ⟨h1, by rw [h1.at_ y (by simp), e1]⟩
theorem Pn.wrote {b : List UInt8} (h : Pn P L) (hb : Wrote most D L s b D' L' y) : Pn P L' := by
  rcases hb with ⟨x, hx, rfl, ey, rfl, rfl⟩ | ⟨hno, L1, hr, ey, rfl⟩
  · exact h.updSame hx (by rw [ey]) (by rw [ey])
  · exact (h.room hr).add (y := y) (fun x hx => by rw [ey]; exact hno x (hr.sub x hx)) (by rw [ey])
theorem Pn.pin (h : Pn P L) (hy : y ∈ L) (v : Nat) : Pn (putP P y.s v) (updL { y with pins := v } L) := h.upd (y := { y with pins := v }) ⟨y, hy, rfl⟩
theorem Pn.out (h : Pn P L) {x : Fr} (hx : x ∈ L) (hp : x.pins = 0) : Pn P (delL x.s L) := by
  refine ⟨fun z hz => h.at_ z (delL_mem.1 hz).1, fun s hs => ?_⟩
  obtain ⟨z, hz, rfl⟩ := h.has s hs
  refine ⟨z, delL_mem.2 ⟨hz, fun e => hs ?_⟩, rfl⟩
  rw [e, ← h.at_ x hx, hp]
/-- As many frames as sectors, and each of these has one: then no other one has. -/
theorem pig : ∀ (n : Nat) {L : List Fr}, L.Pairwise (fun x y => x.s ≠ y.s) → L.length ≤ n → (∀ i, i < n → ∃ x ∈ L, x.s = i) → L.length = n ∧ ∀ x ∈ L, x.s < n
  | 0, L, _, hl, _ => by
    have : L = [] := List.eq_nil_of_length_eq_zero (by omega)
    subst this
    exact ⟨rfl, fun x hx => by cases hx⟩
  | n + 1, L, hp, hl, hh => by
    have hd := delL_len hp (hh n (by omega))
    obtain ⟨x0, hx0, _⟩ := hh n (by omega)
    have hpos := List.length_pos_of_mem hx0
    obtain ⟨h1, h2⟩ := pig n (L := delL n L) (hp.filter _) (by omega) (fun i hi => by
      obtain ⟨x, hx, e⟩ := hh i (by omega)
      exact ⟨x, delL_mem.2 ⟨hx, by omega⟩, e⟩)
    have h1 : (delL n L).length = n := h1
    refine ⟨by omega, fun x hx => ?_⟩
    by_cases e : x.s = n
    · omega
    · have := h2 x (delL_mem.2 ⟨hx, e⟩)
      omega
theorem pigle : ∀ (n : Nat) {L : List Fr}, L.Pairwise (fun x y => x.s ≠ y.s) → (∀ x ∈ L, x.s < n) → L.length ≤ n
  | 0, L, _, h => by
    cases L with
    | nil => exact Nat.le_refl _
    | cons x L => exact absurd (h x (by simp)) (by omega)
  | n + 1, L, hp, h => by
    have ih := pigle n (L := delL n L) (hp.filter _) (fun x hx => by
      obtain ⟨h1, h2⟩ := delL_mem.1 (show x ∈ delL n L from hx)
      have := h x h1
      omega)
    have ih : (delL n L).length ≤ n := ih
    by_cases hx : ∃ x ∈ L, x.s = n
    · have := delL_len hp hx; omega
    · have e : delL n L = L := List.filter_eq_self.2 (fun x hx' => by have : x.s ≠ n := fun e => hx ⟨x, hx', e⟩; simpa using this)
      rw [e] at ih; omega
end
end Go.Proofs.Ytiemfhncadcemaa
