/- cache: a disk whose power stays, and what a cache says, apart from memory. -/
import Derived.Test.YtiemfhncadcemaaCl
namespace Go.Proofs.Ytiemfhncadcemaa
open Go.RowKit Dsk

/-- A disk that is on, not armed, with n sectors that all can be read; t bounds what was done. -/
structure Hale (n t : Nat) (D : DS) : Prop where
  dead : D.dead = false
  armed : D.armed = 0
  len : D.S.length = n
  full : ∀ b ∈ D.S, b.length = 256
  pend : ∀ p ∈ D.P, p.1 < n ∧ p.2.length = 256
  P : D.P.length ≤ t
  steps : D.steps ≤ t
section
variable {n t : Nat} {D : DS}
theorem Hale.new (n : Nat) : Hale n 0 (newD n) := ⟨rfl, rfl, List.length_replicate, fun b hb => by rw [List.eq_of_mem_replicate hb]; exact zeros_length, (fun p hp => by cases hp), Nat.le_refl _, Nat.le_refl _⟩
theorem Hale.mono {u : Nat} (h : Hale n t D) (hu : t ≤ u) : Hale n u D := ⟨h.dead, h.armed, h.len, h.full, h.pend, Nat.le_trans h.P hu, Nat.le_trans h.steps hu⟩
theorem Hale.eta (h : Hale n t D) : D = ⟨D.S, D.P, false, 0, D.steps⟩ := by
  obtain ⟨S, P, d, a, t⟩ := D
  have h1 := h.dead; have h2 := h.armed
  simp at h1 h2
  subst h1; subst h2; rfl
theorem filled_full {b : List UInt8} (h : b.length = 256) : filled b 256 = b := by unfold filled; rw [h]; simp
theorem Hale.writeE (h : Hale n t D) {s : Nat} {b : List UInt8} (hs : s < n) (hb : b.length = 256) : writeE D (s : Int) b = 0 := by
  rw [h.eta, write_liveE _ _ _ s b (by rw [h.len]; exact hs) (by omega)]
theorem Hale.writeD (h : Hale n t D) {s : Nat} {b : List UInt8} (hs : s < n) (hb : b.length = 256) : writeD D (s : Int) b = ⟨D.S, D.P ++ [(s, b)], false, 0, D.steps + 1⟩ := by
  have e := write_liveD D.S D.P D.steps s b (by rw [h.len]; exact hs) (by omega)
  rw [filled_full hb, ← h.eta] at e
  exact e
theorem Hale.write (h : Hale n t D) {s : Nat} {b : List UInt8} (hs : s < n) (hb : b.length = 256) : Hale n (t + 1) (Go.Proofs.Ytiemfhncadcemaa.writeD D (s : Int) b) := by
  rw [h.writeD hs hb]
  exact ⟨rfl, rfl, h.len, h.full, fun p hp => (List.mem_append.1 hp).elim (h.pend p) fun hp => by rw [List.mem_singleton.1 hp]; exact ⟨hs, hb⟩, by have := h.P; simp; omega, by have := h.steps; show D.steps + 1 ≤ _; omega⟩
theorem Hale.writeR (h : Hale n t D) {s : Nat} {b : List UInt8} (hs : s < n) (hb : b.length = 256) (j : Nat) : readS (Go.Proofs.Ytiemfhncadcemaa.writeD D (s : Int) b) j = if s = j then b else readS D j := by
  rw [h.writeD hs hb]
  unfold readS
  show overlay j (D.P ++ [(s, b)]) (D.S.getD j []) = _
  rw [overlay_snoc]
theorem Hale.barE (h : Hale n t D) : barE D = 0 := by rw [h.eta]; rfl
theorem Hale.barD (h : Hale n t D) : barD D = ⟨settleTo (fun _ b => some b) D.P D.S D.P.length, [], false, 0, D.steps + 1⟩ := by
  rw [h.eta]; exact bar_liveD D.S D.P D.steps
theorem Hale.bar (h : Hale n t D) : Hale n (t + 1) (Go.Proofs.Ytiemfhncadcemaa.barD D) := by
  rw [h.barD]
  exact ⟨rfl, rfl, by rw [settleTo_length]; exact h.len, settle_full D.P D.S h.full (fun p hp => (h.pend p hp).2) _, (fun p hp => by cases hp), Nat.zero_le _, by have := h.steps; show D.steps + 1 ≤ _; omega⟩
theorem Hale.barS (h : Hale n t D) (s : Nat) : (Go.Proofs.Ytiemfhncadcemaa.barD D).S.getD s [] = readS D s := by
  rw [h.barD]
  show (settleTo (fun _ b => some b) D.P D.S D.P.length).getD s [] = _
  rw [settle_get D.P D.S s (fun p hp => by have := (h.pend p hp).1; rw [h.len]; exact this) D.P.length (Nat.le_refl _), List.take_length]
  rfl
theorem Hale.barR (h : Hale n t D) (s : Nat) : readS (Go.Proofs.Ytiemfhncadcemaa.barD D) s = readS D s := by
  have e := h.barS s
  unfold readS
  rw [show (Go.Proofs.Ytiemfhncadcemaa.barD D).P = [] by rw [h.barD]]
  exact e
theorem Hale.read (h : Hale n t D) {s : Nat} (hs : s < n) : (readS D s).length = 256 ∧ readE D s = 0 := by
  have h1 : (readS D s).length = 256 := by
    unfold readS
    rcases overlay_last s (D.S.getD s []) D.P with ⟨_, h2⟩ | ⟨k, _, h2, h3⟩
    · rw [h2]
      have hl : s < D.S.length := by rw [h.len]; exact hs
      simp only [List.getD, List.getElem?_eq_getElem hl, Option.getD_some]
      exact h.full _ (List.getElem_mem hl)
    · exact (h.pend _ (List.mem_of_getElem? h3)).2
  refine ⟨h1, ?_⟩
  have h2 : readE D s = if readS D s = [] then 5 else 0 := by
    have h3 := read_live D.S D.P D.steps 0 s (by rw [h.len]; exact hs)
    rw [← h.eta] at h3
    exact h3
  rw [h2, if_neg fun e => by rw [e] at h1; cases h1]
theorem Hale.new_read {n s : Nat} (hs : s < n) : readS (newD n) s = zeros := by
  unfold readS newD
  show overlay s [] ((List.replicate n zeros).getD s []) = zeros
  simp [overlay, List.getD, hs]
end

/-- What a cache says of a sector. -/
def what (D : DS) (L : List Fr) (j : Nat) : List UInt8 := ((L.find? fun x => x.s == j).map Fr.b).getD (readS D j)
theorem what_no {D : DS} {L : List Fr} {j : Nat} (h : ∀ x ∈ L, x.s ≠ j) : what D L j = readS D j := by
  unfold what
  rw [List.find?_eq_none.2 (fun x hx => by have := h x hx; simpa using this)]; rfl
theorem what_yes {D : DS} {L : List Fr} (hp : L.Pairwise fun x y => x.s ≠ y.s) {x : Fr} (hx : x ∈ L) : what D L x.s = x.b := by
  unfold what
  cases hh : L.find? (fun y => y.s == x.s) with
  | none =>
    rw [List.find?_eq_none] at hh
    exact absurd (by simp) (hh x hx)
  | some y =>
    have h1 := List.find?_some hh
    have h2 : y.s = x.s := by simpa using h1
    rw [uniq hp (List.mem_of_find?_eq_some hh) hx h2]; rfl
/-- A cache of at most most frames over a disk of n sectors. -/
structure Sta (n most t : Nat) (D : DS) (L : List Fr) : Prop where
  hale : Hale n t D
  clean : ∀ x ∈ L, x.dirty = false → x.b = readS D x.s
  inn : ∀ x ∈ L, x.s < n ∧ x.pins ≤ t ∧ x.b.length = 256
  nodup : L.Pairwise fun x y => x.s ≠ y.s
  len : L.length ≤ most
  top : most ≤ 1024 ∧ 16 ≤ n ∧ n ≤ 4096
section
variable {n most t : Nat} {D : DS} {L : List Fr}
theorem Sta.mono {u : Nat} (h : Sta n most t D L) (hu : t ≤ u) : Sta n most u D L := ⟨h.hale.mono hu, h.clean, fun x hx => ⟨(h.inn x hx).1, Nat.le_trans (h.inn x hx).2.1 hu, (h.inn x hx).2.2⟩, h.nodup, h.len, h.top⟩
theorem Sta.new (n most : Nat) (h : most ≤ 1024 ∧ 16 ≤ n ∧ n ≤ 4096) : Sta n most 0 (newD n) [] := ⟨Hale.new n, (fun x hx => by cases hx), (fun x hx => by cases hx), List.Pairwise.nil, Nat.zero_le _, h⟩
/-- A frame put out. -/
theorem Sta.outE (h : Sta n most t D L) {x : Fr} (hx : x ∈ L) : outE D x = 0 := by
  unfold Go.Proofs.Ytiemfhncadcemaa.outE
  split
  · exact h.hale.writeE (h.inn x hx).1 (h.inn x hx).2.2
  · rfl
theorem Sta.outL (h : Sta n most t D L) {x : Fr} (hx : x ∈ L) : outL D x L = delL x.s L := if_pos (h.outE hx)
theorem Sta.outR (h : Sta n most t D L) {x : Fr} (hx : x ∈ L) (j : Nat) : readS (outD D x) j = if x.s = j then x.b else readS D j := by
  unfold outD
  cases hd : x.dirty with
  | true => exact h.hale.writeR (h.inn x hx).1 (h.inn x hx).2.2 j
  | false =>
    rw [if_neg (by decide)]
    split
    · rename_i e; rw [← e, h.clean x hx hd]
    · rfl
theorem Sta.outH (h : Sta n most t D L) {x : Fr} (hx : x ∈ L) : Hale n (t + 1) (outD D x) := by
  unfold outD
  split
  · exact h.hale.write (h.inn x hx).1 (h.inn x hx).2.2
  · exact h.hale.mono (Nat.le_succ _)
theorem delL_mem {s : Nat} {x : Fr} : x ∈ delL s L ↔ x ∈ L ∧ x.s ≠ s := by unfold delL; rw [List.mem_filter]; simp
theorem Sta.out (h : Sta n most t D L) {x : Fr} (hx : x ∈ L) : Sta n most (t + 1) (outD D x) (delL x.s L) :=
  ⟨h.outH hx, fun y hy hd => by
      obtain ⟨h1, h2⟩ := delL_mem.1 hy
      rw [h.outR hx, if_neg (fun e => h2 e.symm)]; exact h.clean y h1 hd,
    fun y hy => by
      obtain ⟨h1, _⟩ := delL_mem.1 hy
      exact ⟨(h.inn y h1).1, Nat.le_succ_of_le (h.inn y h1).2.1, (h.inn y h1).2.2⟩,
    h.nodup.filter _, Nat.le_trans (List.length_filter_le _ _) h.len, h.top⟩
theorem what_out (h : Sta n most t D L) {x : Fr} (hx : x ∈ L) (j : Nat) : what (outD D x) (delL x.s L) j = what D L j := by
  by_cases hj : ∃ y ∈ L, y.s = j
  · obtain ⟨y, hy, rfl⟩ := hj
    rw [what_yes h.nodup hy]
    by_cases e : y.s = x.s
    · have : y = x := uniq h.nodup hy hx e
      subst this
      rw [what_no (fun z hz => (delL_mem.1 hz).2), h.outR hy, if_pos rfl]
    · exact what_yes (h.out hx).nodup (delL_mem.2 ⟨hy, e⟩)
  · have hn : ∀ y ∈ L, y.s ≠ j := fun y hy e => hj ⟨y, hy, e⟩
    rw [what_no hn, what_no (fun y hy => hn y (delL_mem.1 hy).1), h.outR hx, if_neg (hn x hx)]
/-- There is room: as it is, or behind some frame without pins that was put out. -/
def Room (most : Nat) (D : DS) (L : List Fr) (D' : DS) (L' : List Fr) : Prop :=
  (L.length < most ∧ D' = D ∧ L' = L) ∨ (most ≤ L.length ∧ ∃ x ∈ L, x.pins = 0 ∧ D' = outD D x ∧ L' = delL x.s L)
theorem Room.sta {D' : DS} {L' : List Fr} (h : Sta n most t D L) (hr : Room most D L D' L') (hm : 0 < most) : Sta n most (t + 1) D' L' ∧ L'.length < most ∧ (∀ x ∈ L', x ∈ L) ∧ ∀ j, what D' L' j = what D L j := by
  rcases hr with ⟨h1, rfl, rfl⟩ | ⟨h1, x, hx, _, rfl, rfl⟩
  · exact ⟨h.mono (Nat.le_succ _), h1, fun x hx => hx, fun _ => rfl⟩
  · refine ⟨h.out hx, ?_, fun y hy => (delL_mem.1 hy).1, what_out h hx⟩
    rw [delL_len h.nodup ⟨x, hx, rfl⟩]
    have := h.len; have := List.length_pos_of_mem hx; omega
theorem updL_yes {y : Fr} (hy : ∃ x ∈ L, x.s = y.s) : y ∈ updL y L := by
  obtain ⟨x, hx, e⟩ := hy
  exact List.mem_map.2 ⟨x, hx, by rw [if_pos e]⟩
/-- A frame turned. -/
theorem Sta.upd (h : Sta n most t D L) {y : Fr} (hy : ∃ x ∈ L, x.s = y.s) (hc : y.dirty = false → y.b = readS D y.s) (hp : y.pins ≤ t) (hb : y.b.length = 256) : Sta n most t D (updL y L) :=
  ⟨h.hale, fun x hx hd => by
      rcases updL_mem hx with ⟨rfl, _⟩ | ⟨hx, _⟩
      · exact hc hd
      · exact h.clean x hx hd,
    fun x hx => by
      rcases updL_mem hx with ⟨rfl, z, hz, e⟩ | ⟨hx, _⟩
      · exact ⟨by rw [← e]; exact (h.inn z hz).1, hp, hb⟩
      · exact h.inn x hx,
    by
      unfold updL
      rw [List.pairwise_map]
      exact h.nodup.imp fun {a b} hab => by rw [updL_s, updL_s]; exact hab,
    by rw [updL_len]; exact h.len, h.top⟩
theorem what_upd (hp : L.Pairwise fun x y => x.s ≠ y.s) {y : Fr} (hy : ∃ x ∈ L, x.s = y.s) (j : Nat) : what D (updL y L) j = if j = y.s then y.b else what D L j := by
  have hp' : (updL y L).Pairwise fun x y => x.s ≠ y.s := by
    unfold updL
    rw [List.pairwise_map]
    exact hp.imp fun {a b} hab => by rw [updL_s, updL_s]; exact hab
  by_cases e : j = y.s
  · rw [if_pos e, e]; exact what_yes hp' (updL_yes hy)
  · rw [if_neg e]
    by_cases hj : ∃ x ∈ L, x.s = j
    · obtain ⟨x, hx, rfl⟩ := hj
      rw [what_yes hp hx]
      exact what_yes hp' (List.mem_map.2 ⟨x, hx, by rw [if_neg e]⟩)
    · have hn : ∀ x ∈ L, x.s ≠ j := fun x hx e => hj ⟨x, hx, e⟩
      rw [what_no hn, what_no (fun x hx => by
        rcases updL_mem hx with ⟨rfl, _⟩ | ⟨hx, _⟩
        · exact fun e' => e e'.symm
        · exact hn x hx)]
/-- A frame more. -/
theorem Sta.add (h : Sta n most t D L) {y : Fr} (hno : ∀ x ∈ L, x.s ≠ y.s) (hl : L.length < most) (hs : y.s < n) (hc : y.dirty = false → y.b = readS D y.s) (hp : y.pins ≤ t) (hb : y.b.length = 256) : Sta n most t D (L ++ [y]) :=
  ⟨h.hale, fun x hx hd => by
      rcases List.mem_append.1 hx with hx | hx
      · exact h.clean x hx hd
      · rw [List.mem_singleton.1 hx] at hd ⊢; exact hc hd,
    fun x hx => by
      rcases List.mem_append.1 hx with hx | hx
      · exact h.inn x hx
      · rw [List.mem_singleton.1 hx]; exact ⟨hs, hp, hb⟩,
    by rw [List.pairwise_append]; exact ⟨h.nodup, List.pairwise_singleton _ _, fun a ha b hb => by rw [List.mem_singleton.1 hb]; exact hno a ha⟩,
    by rw [List.length_append]; simp; omega, h.top⟩
theorem what_add (hp : L.Pairwise fun x y => x.s ≠ y.s) {y : Fr} (hno : ∀ x ∈ L, x.s ≠ y.s) (j : Nat) : what D (L ++ [y]) j = if j = y.s then y.b else what D L j := by
  have hp' : (L ++ [y]).Pairwise fun x y => x.s ≠ y.s := by rw [List.pairwise_append]; exact ⟨hp, List.pairwise_singleton _ _, fun a ha b hb => by rw [List.mem_singleton.1 hb]; exact hno a ha⟩
  by_cases e : j = y.s
  · rw [if_pos e, e]; exact what_yes hp' (List.mem_append.2 (.inr (List.mem_singleton.2 rfl)))
  · rw [if_neg e]
    by_cases hj : ∃ x ∈ L, x.s = j
    · obtain ⟨x, hx, rfl⟩ := hj
      rw [what_yes hp hx]
      exact what_yes hp' (List.mem_append.2 (.inl hx))
    · have hn : ∀ x ∈ L, x.s ≠ j := fun x hx e => hj ⟨x, hx, e⟩
      rw [what_no hn, what_no (fun x hx => by
        rcases List.mem_append.1 hx with hx | hx
        · exact hn x hx
        · rw [List.mem_singleton.1 hx]; exact fun e' => e e'.symm)]
end
end Go.Proofs.Ytiemfhncadcemaa
