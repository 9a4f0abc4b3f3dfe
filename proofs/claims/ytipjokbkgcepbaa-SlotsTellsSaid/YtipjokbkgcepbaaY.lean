/- What Put, Drop and Get answer, in one form; Apart of two and three. -/
import Derived.Test.YtipjokbkgcepbaaRe
import Derived.Test.YtipjokbkgcepbaaK
import Derived.Test.YtipjokbkgcepbaaZKept
import Derived.Test.YtipjokbkgcepbaaZApart
namespace Go.Proofs.Ytipjokbkgcepbaa
open Go.RowKit Slt

theorem ItOk.below {w w' : World} {B : Nat} {it : Itm} (h : ItOk w B it) (hb : Below w.heap.size w w') : ItOk w' B it := h.frame hb.size fun k hk _ => hb.block k hk
theorem ItOk.none_ (w : World) (B : Nat) : ItOk w B ⟨none, 0, 0, []⟩ := .inl ⟨rfl, rfl, rfl, rfl⟩
theorem ItOk.caps {w : World} {B : Nat} {it : Itm} (h : ItOk w B it) : it.len ≤ it.cap ∧ it.cap ≤ 9223372036854775807 := by
  rcases h with ⟨_, h2, h3, _⟩ | ⟨g, _, _, h3⟩
  · rw [h2, h3]; decide
  · have := h3.le
    have := h3.max
    unfold maxLen at this
    omega

def dropX (p : List UInt8) (slot : Int) : List UInt8 := if gotR p slot = none then [] else pageOf (dropL p slot)
def putX (p rec : List UInt8) : List UInt8 := if mayPut p rec then pageOf (putL p rec) else []
def putK (p rec : List UInt8) : Int := if mayPut p rec then (lowK (recs p) : Int) else 0
def gotX (p : List UInt8) (slot : Int) : List UInt8 := (gotR p slot).getD []

theorem DropP.ans {p : List UInt8} {slot : Int} {w : World} {e : Ending} {w' : World} (h : DropP p slot w e w') :
    ∃ A c, e = .returned (.tuple #[.slice A (dropX p slot).length c, .bool (gotR p slot).isSome]) ∧ ItOk w' w.heap.size ⟨A, (dropX p slot).length, c, dropX p slot⟩ ∧ Below w.heap.size w w' := by
  rcases h with ⟨h1, rfl, hb⟩ | ⟨r, g, c, h1, rfl, h2, h3, hb⟩
  · have e1 : dropX p slot = [] := if_pos h1
    refine ⟨none, 0, ?_, ?_, hb⟩
    · rw [e1, h1]; rfl
    · rw [e1]; exact ItOk.none_ _ _
  · have e1 : dropX p slot = pageOf (dropL p slot) := if_neg (by rw [h1]; simp)
    refine ⟨some ⟨g, 0, none⟩, c, ?_, ?_, hb⟩
    · rw [e1, h1]; rfl
    · rw [e1]; exact .inr ⟨g, rfl, h3, h2⟩
theorem PutP.ans {p rec : List UInt8} {w : World} {e : Ending} {w' : World} (h : PutP p rec w e w') :
    ∃ A c, e = .returned (.tuple #[.slice A (putX p rec).length c, .int .i64 (putK p rec), .bool (decide (mayPut p rec))]) ∧ ItOk w' w.heap.size ⟨A, (putX p rec).length, c, putX p rec⟩ ∧ Below w.heap.size w w' := by
  rcases h with ⟨h1, rfl, hb⟩ | ⟨g, c, h1, rfl, h2, h3, hb⟩
  · have e1 : putX p rec = [] := if_neg h1
    refine ⟨none, 0, ?_, ?_, hb⟩
    · rw [e1, show putK p rec = 0 from if_neg h1, decide_eq_false h1]; rfl
    · rw [e1]; exact ItOk.none_ _ _
  · have e1 : putX p rec = pageOf (putL p rec) := if_pos h1
    refine ⟨some ⟨g, 0, none⟩, c, ?_, ?_, hb⟩
    · rw [e1, show putK p rec = _ from if_pos h1, decide_eq_true h1]
    · rw [e1]; exact .inr ⟨g, rfl, h3, h2⟩
theorem GotP.ans {p : List UInt8} {slot : Int} {w : World} {e : Ending} {w' : World} (h : GotP p slot w e w') :
    ∃ A c, e = .returned (.tuple #[.slice A (gotX p slot).length c, .bool (gotR p slot).isSome]) ∧ ItOk w' w.heap.size ⟨A, (gotX p slot).length, c, gotX p slot⟩ ∧ Below w.heap.size w w' := by
  rcases h with ⟨h1, rfl, hb⟩ | ⟨r, g, c, h1, rfl, h2, h3, hb⟩
  · have e1 : gotX p slot = [] := by unfold gotX; rw [h1]; rfl
    refine ⟨none, 0, ?_, ?_, hb⟩
    · rw [e1, h1]; rfl
    · rw [e1]; exact ItOk.none_ _ _
  · have e1 : gotX p slot = r := by unfold gotX; rw [h1]; rfl
    refine ⟨some ⟨g, 0, none⟩, c, ?_, ?_, hb⟩
    · rw [e1, h1]; rfl
    · rw [e1]; exact .inr ⟨g, rfl, h3, h2⟩
theorem RGotP.ans {p : List UInt8} {slot : Int} {w : World} {e : Ending} {w' : World} (h : RGotP p slot w e w') :
    ∃ A c, e = .returned (.tuple #[.slice A (gotX p slot).length c, .bool (gotR p slot).isSome]) ∧ Bytes w' A (gotX p slot) ∧ (gotX p slot).length ≤ c ∧ c ≤ 9223372036854775807 ∧ Below w.heap.size w w' := by
  rcases h with ⟨h1, rfl, hb⟩ | ⟨r, A, c, h1, rfl, h2, h3, h4, hb⟩
  · have e1 : gotX p slot = [] := by unfold gotX; rw [h1]; rfl
    refine ⟨none, 0, ?_, ?_, ?_, ?_, hb⟩
    · rw [e1, h1]; rfl
    · rw [e1]; exact Bytes.nil _ _
    · rw [e1]; exact Nat.le_refl _
    · decide
  · have e1 : gotX p slot = r := by unfold gotX; rw [h1]; rfl
    unfold maxLen at h3
    refine ⟨A, c, ?_, ?_, ?_, h3, hb⟩
    · rw [e1, h1]; rfl
    · rw [e1]; exact h4
    · rw [e1]; exact h2

theorem dropX_len (p : List UInt8) (slot : Int) : (dropX p slot).length ≤ 1000 := by
  unfold dropX
  split
  · simp
  · rw [page_length]
    obtain ⟨h1, h2⟩ := recs_flat p
    have h3 := trim_length_le (dropL p slot)
    have h4 := set_nil_flat (recs p) slot.toNat
    have h5 : (dropL p slot).length = (recs p).length := by unfold dropL; rw [List.length_set]
    have h6 : (dropL p slot).flatten.length ≤ (recs p).flatten.length := h4
    omega
theorem putX_len (p rec : List UInt8) : (putX p rec).length ≤ 1000 := by
  unfold putX
  split
  · rename_i h
    have := (mayPut_len h.ok.1 h.ok.2.1).1 h
    omega
  · simp
theorem gotX_len (p : List UInt8) (slot : Int) : (gotX p slot).length ≤ 1000 := by
  unfold gotX
  cases h : gotR p slot with
  | none => simp
  | some r =>
    unfold gotR at h
    split at h
    · cases e : (recs p)[slot.toNat]? with
      | none => rw [e] at h; cases h
      | some s =>
        rw [e] at h
        simp only [Option.bind_some] at h
        split at h
        · cases h
        · injection h with h
          subst h
          have hm := List.mem_of_getElem? e
          have hl := (List.sublist_flatten_of_mem hm).length_le
          have := (recs_flat p).2
          show s.length ≤ 1000
          omega
    · cases h

/-- Apart of an answer and what was handed. -/
theorem apart2 (q : Itm) (g0 len B : Nat) (bs : List UInt8) (w : World) (hq : ItOk w B q) (hql : q.len ≤ 1000) (hR : Rw w g0 len (len + 6) bs) (hg : B ≤ g0) (hne : q.home ≠ some g0) (hB : B ≤ w.heap.size) (hl : len ≤ 1000000) :
    Calls Try.prog 22 #[.slice (some ⟨w.heap.size, 0, none⟩) 2 2] (w.alloc (.cells #[.slice q.A q.len q.cap, .slice (some ⟨g0, 0, none⟩) len (len + 6)] 22)) fun e w' => e = .returned (.bool true) ∧ Below B w w' := by
  obtain ⟨wz, hwz⟩ : ∃ wz, w.alloc (.cells #[.slice q.A q.len q.cap, .slice (some ⟨g0, 0, none⟩) len (len + 6)] 22) = wz := ⟨_, rfl⟩
  have hbz : Below w.heap.size w wz := by rw [← hwz]; exact (Below.refl _ _).alloc (Nat.le_refl _) _
  have hcz : Blk wz w.heap.size 22 #[.slice q.A q.len q.cap, .slice (some ⟨g0, 0, none⟩) len (len + 6)] := by rw [← hwz]; exact Blk.new _ _ _
  have hql2 := fun g (h : q.home = some g) => hq.home_lt h
  rw [hwz]
  refine (apart_any w.heap.size 2 2 B [q, ⟨some ⟨g0, 0, none⟩, len, len + 6, bs⟩] wz rfl (by decide) (by decide) ?_ (Nat.le_trans hB hbz.size) hcz.lt ?_ ?_).mono ?_
  · constructor
    · intro j k' it jt g hjk hj hk' hgg hg'
      have hh0 : (⟨some ⟨g0, 0, none⟩, len, len + 6, bs⟩ : Itm).home = some g0 := rfl
      rcases j with _ | _ | j <;> rcases k' with _ | _ | k' <;> first
        | omega
        | (simp at hj; done)
        | (simp at hk'; done)
        | (cases hj; cases hk'; rw [hgg] at hne; rw [hh0] at hg'; exact hne hg'.symm)
        | (cases hj; cases hk'; rw [hg'] at hne; rw [hh0] at hgg; exact hne hgg.symm)
    · intro j it hj e
      rcases j with _ | _ | j
      · cases hj; have := (hql2 _ e).1; omega
      · cases hj; simp [Itm.home] at e; have := hR.lt; omega
      · simp at hj
    · intro j it hj
      rcases j with _ | _ | j
      · cases hj; omega
      · cases hj; dsimp only; omega
      · simp at hj
  · intro j it hj
    rw [hcz.cell j]
    rcases j with _ | _ | j
    · cases hj; rfl
    · cases hj; rfl
    · simp at hj
  · intro j it hj
    rcases j with _ | _ | j
    · cases hj; exact hq.below hbz
    · cases hj; exact .inr ⟨g0, rfl, hg, hR.below hbz⟩
    · simp at hj
  · rintro e w2 ⟨rfl, hb⟩
    exact ⟨rfl, (hbz.mono hB).trans hb⟩
/-- .. and of three. -/
theorem apart3 (q : Itm) (g0 len g1 l1 B : Nat) (bs cs : List UInt8) (w : World) (hq : ItOk w B q) (hql : q.len ≤ 1000) (hR : Rw w g0 len (len + 6) bs) (hg : B ≤ g0) (hne : q.home ≠ some g0) (hR1 : Rw w g1 l1 (l1 + 6) cs) (hg1 : B ≤ g1) (hne1 : q.home ≠ some g1) (h01 : g0 ≠ g1) (hB : B ≤ w.heap.size) (hl : len ≤ 1000000) (hl1 : l1 ≤ 1000000) :
    Calls Try.prog 22 #[.slice (some ⟨w.heap.size, 0, none⟩) 3 3] (w.alloc (.cells #[.slice q.A q.len q.cap, .slice (some ⟨g0, 0, none⟩) len (len + 6), .slice (some ⟨g1, 0, none⟩) l1 (l1 + 6)] 22)) fun e w' => e = .returned (.bool true) ∧ Below B w w' := by
  obtain ⟨wz, hwz⟩ : ∃ wz, w.alloc (.cells #[.slice q.A q.len q.cap, .slice (some ⟨g0, 0, none⟩) len (len + 6), .slice (some ⟨g1, 0, none⟩) l1 (l1 + 6)] 22) = wz := ⟨_, rfl⟩
  have hbz : Below w.heap.size w wz := by rw [← hwz]; exact (Below.refl _ _).alloc (Nat.le_refl _) _
  have hcz : Blk wz w.heap.size 22 #[.slice q.A q.len q.cap, .slice (some ⟨g0, 0, none⟩) len (len + 6), .slice (some ⟨g1, 0, none⟩) l1 (l1 + 6)] := by rw [← hwz]; exact Blk.new _ _ _
  have hql2 := fun g (h : q.home = some g) => hq.home_lt h
  rw [hwz]
  refine (apart_any w.heap.size 3 3 B [q, ⟨some ⟨g0, 0, none⟩, len, len + 6, bs⟩, ⟨some ⟨g1, 0, none⟩, l1, l1 + 6, cs⟩] wz rfl (by decide) (by decide) ?_ (Nat.le_trans hB hbz.size) hcz.lt ?_ ?_).mono ?_
  · constructor
    · intro j k' it jt g hjk hj hk' hgg hg'
      have hh0 : (⟨some ⟨g0, 0, none⟩, len, len + 6, bs⟩ : Itm).home = some g0 := rfl
      have hh1 : (⟨some ⟨g1, 0, none⟩, l1, l1 + 6, cs⟩ : Itm).home = some g1 := rfl
      rcases j with _ | _ | _ | j <;> rcases k' with _ | _ | _ | k' <;> first
        | omega
        | (simp at hj; done)
        | (simp at hk'; done)
        | (cases hj; cases hk'; rw [hgg] at hne; rw [hh0] at hg'; exact hne hg'.symm)
        | (cases hj; cases hk'; rw [hgg] at hne1; rw [hh1] at hg'; exact hne1 hg'.symm)
        | (cases hj; cases hk'; rw [hg'] at hne; rw [hh0] at hgg; exact hne hgg.symm)
        | (cases hj; cases hk'; rw [hg'] at hne1; rw [hh1] at hgg; exact hne1 hgg.symm)
        | (cases hj; cases hk'; rw [hh0] at hgg; rw [hh1] at hg'; exact h01 (Option.some.inj (hgg.trans hg'.symm)))
        | (cases hj; cases hk'; rw [hh1] at hgg; rw [hh0] at hg'; exact h01 (Option.some.inj (hg'.trans hgg.symm)))
    · intro j it hj e
      rcases j with _ | _ | _ | j
      · cases hj; have := (hql2 _ e).1; omega
      · cases hj; simp [Itm.home] at e; have := hR.lt; omega
      · cases hj; simp [Itm.home] at e; have := hR1.lt; omega
      · simp at hj
    · intro j it hj
      rcases j with _ | _ | _ | j
      · cases hj; omega
      · cases hj; dsimp only; omega
      · cases hj; dsimp only; omega
      · simp at hj
  · intro j it hj
    rw [hcz.cell j]
    rcases j with _ | _ | _ | j
    · cases hj; rfl
    · cases hj; rfl
    · cases hj; rfl
    · simp at hj
  · intro j it hj
    rcases j with _ | _ | _ | j
    · cases hj; exact hq.below hbz
    · cases hj; exact .inr ⟨g0, rfl, hg, hR.below hbz⟩
    · cases hj; exact .inr ⟨g1, rfl, hg1, hR1.below hbz⟩
    · simp at hj
  · rintro e w2 ⟨rfl, hb⟩
    exact ⟨rfl, (hbz.mono hB).trans hb⟩
end Go.Proofs.Ytipjokbkgcepbaa
