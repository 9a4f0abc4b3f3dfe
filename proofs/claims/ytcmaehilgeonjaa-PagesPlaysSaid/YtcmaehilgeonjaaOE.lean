/- octet.Put, of a size that there is. -/
import Derived.Test.YtcmaehilgeonjaaOD
namespace Go.Proofs.Ytcmaehilgeonjaa
open Go.RowKit Go.Shelf
attribute [local go_sem] Oper.semAt_some

/-- A number as so many bytes, the lowest first. -/
def lePut (x : Nat) : Nat → List UInt8
  | 0 => []
  | n + 1 => UInt8.ofNat x :: lePut (x / 256) n

/-- The row when some bytes have been put. -/
def putRow {n : Nat} (bs : List UInt8) (x : Nat) (pre : List (BPair n)) : List Value := pre.foldl (fun L y => L.set (bs.length + y.1.1) (bv (UInt8.ofNat (x / 2 ^ (8 * y.1.1))))) (bs.map bv ++ List.replicate n (bv 0))
theorem putRow_snoc {n : Nat} (bs : List UInt8) (x : Nat) (pre : List (BPair n)) (y : BPair n) : putRow bs x (pre ++ [y]) = (putRow bs x pre).set (bs.length + y.1.1) (bv (UInt8.ofNat (x / 2 ^ (8 * y.1.1)))) := by simp [putRow]
theorem putRow_length {n : Nat} (bs : List UInt8) (x : Nat) (pre : List (BPair n)) : (putRow bs x pre).length = bs.length + n := by
  suffices h : ∀ (l : List (BPair n)) (L : List Value), (l.foldl (fun L y => L.set (bs.length + y.1.1) (bv (UInt8.ofNat (x / 2 ^ (8 * y.1.1))))) L).length = L.length by
    unfold putRow; rw [h]; simp
  intro l
  induction l with
  | nil => intro L; rfl
  | cons y l ih => intro L; simp only [List.foldl_cons]; rw [ih]; simp

theorem lePut_length (x n : Nat) : (lePut x n).length = n := by
  induction n generalizing x with
  | zero => rfl
  | succ n ih => simp [lePut, ih]
theorem lePut_get (x : Nat) : ∀ (n k : Nat), k < n → (lePut x n)[k]? = some (UInt8.ofNat (x / 2 ^ (8 * k))) := by
  intro n
  induction n generalizing x with
  | zero => intro k h; omega
  | succ n ih =>
    intro k h
    cases k with
    | zero => simp [lePut]
    | succ k =>
      simp only [lePut, List.getElem?_cons_succ]
      rw [ih (x / 256) k (by omega), Nat.div_div_eq_div_mul, show (256 : Nat) = 2 ^ 8 by decide, ← Nat.pow_add, show 8 + 8 * k = 8 * (k + 1) by omega]

theorem putRow_came {n : Nat} (bs : List UInt8) (x : Nat) : ∀ (k : Nat) (ys : List (BPair n)), k ≤ n → Came (fun _ _ => True) k ys → putRow bs x ys = (bs ++ (lePut x n).take k).map bv ++ List.replicate (n - k) (bv 0) := by
  intro k
  induction k with
  | zero =>
    intro ys _ h
    have : ys = [] := List.eq_nil_of_length_eq_zero h.length
    subst this; simp [putRow]
  | succ k ih =>
    intro ys hk h
    obtain ⟨pre, y, rfl, hp, hy, _⟩ := came_snoc_inv h
    have hkl : k < (lePut x n).length := by rw [lePut_length]; omega
    have hg := lePut_get x n k (by omega)
    have hke : (lePut x n)[k] = UInt8.ofNat (x / 2 ^ (8 * k)) := by
      rw [List.getElem?_eq_getElem hkl] at hg; exact Option.some.inj hg
    rw [putRow_snoc, ih pre (by omega) hp, hy, List.take_succ_eq_append_getElem hkl, hke]
    have hl : ((bs ++ (lePut x n).take k).map bv).length = bs.length + k := by simp; rw [lePut_length]; omega
    obtain ⟨r, hr⟩ : ∃ r, n - k = r + 1 := ⟨n - k - 1, by omega⟩
    rw [hr, show n - (k + 1) = r by omega, List.set_append, hl, if_neg (Nat.lt_irrefl _), Nat.sub_self]
    simp [List.replicate_succ, List.set_cons_zero]

theorem put_byte (x i : Nat) : ((x : Int) / 2 ^ (8 * i) % 256) = ((UInt8.ofNat (x / 2 ^ (8 * i))).toNat : Int) := by
  rw [UInt8.toNat_ofNat']
  have e : ((x : Int) / 2 ^ (8 * i)) = ((x / 2 ^ (8 * i) : Nat) : Int) := by rw [Int.natCast_ediv, Int.natCast_pow]; rfl
  rw [e, Int.natCast_emod]
  rfl

theorem put_fin {w w1 ws W : World} {A : Option Addr} {cap n x : Nat} {bs : List UInt8} {pre : List (BPair n)} {y : BPair n} (h4 : w.heap.size + 4 ≤ w1.heap.size)
    (hR : Blk W (w.heap.size + 1 + 1) 5 (putRow bs x pre).toArray) (hB' : Boxed W w.heap.size 30 (.slice A bs.length cap)) (hX' : Boxed W (w.heap.size + 1) 62 (.int .u64 (x : Int)))
    (hL' : Boxed W (w.heap.size + 1 + 1 + 1) 30 (.slice (some ⟨w.heap.size + 1 + 1, 0, none⟩) (bs.length + n) (bs.length + n))) (hB : Below w.heap.size w W) :
    let W2 := (W.setCell ⟨w.heap.size + 1 + 1, bs.length + y.1.1, none⟩ (.int .u8 ((x : Int) / 2 ^ (8 * y.1.1) % 256))).drew
    KeepsFrom ws.heap.size W W2 ∧
    (FInv (w1.heap.size + 2) w1.heap.size (w1.heap.size + 1) (some ⟨w.heap.size + 1 + 1, 0, none⟩) (bs.length + n) (bs.length + n) bs.length n (fun _ _ => True) W →
      FInv (w1.heap.size + 2) w1.heap.size (w1.heap.size + 1) (some ⟨w.heap.size + 1 + 1, 0, none⟩) (bs.length + n) (bs.length + n) bs.length n (fun _ _ => True) W2) ∧
    (Blk W2 (w.heap.size + 1 + 1) 5 (putRow bs x (pre ++ [y])).toArray ∧ Boxed W2 w.heap.size 30 (.slice A bs.length cap) ∧ Boxed W2 (w.heap.size + 1) 62 (.int .u64 (x : Int)) ∧
      Boxed W2 (w.heap.size + 1 + 1 + 1) 30 (.slice (some ⟨w.heap.size + 1 + 1, 0, none⟩) (bs.length + n) (bs.length + n))) ∧ Below w.heap.size w W2 := by
  intro W2
  have hW2 : W2 = (W.setCell ⟨w.heap.size + 1 + 1, bs.length + y.1.1, none⟩ (bv (UInt8.ofNat (x / 2 ^ (8 * y.1.1))))).drew := by
    show (W.setCell _ _).drew = _
    rw [put_byte]; rfl
  have hother : ∀ p : Addr, p ≠ ⟨w.heap.size + 1 + 1, bs.length + y.1.1, none⟩ → W2.cell? p = W.cell? p := fun p hp => by
    rw [hW2]; exact World.cell?_setCell_other W _ p _ (fun e => hp e.symm)
  have hR2 : Blk W2 (w.heap.size + 1 + 1) 5 (putRow bs x (pre ++ [y])).toArray := by
    have := hR.set_ (bs.length + y.1.1) (bv (UInt8.ofNat (x / 2 ^ (8 * y.1.1))))
    rw [List.setIfInBounds_toArray, ← putRow_snoc] at this
    rw [hW2]; exact this
  refine ⟨?_, fun h => ⟨(hother _ (by simp <;> omega)).trans h.bn, (hother _ (by simp <;> omega)).trans h.bb, (hother _ (by simp <;> omega)).trans h.ba, fun k hk => ?_⟩, ⟨hR2, ?_, ?_, ?_⟩, ?_⟩
  · rw [hW2]; exact ((KeepsOthers.setCell _ _ _).trans (KeepsOthers.drew _)).from _
  · have hl := putRow_length (n := n) bs x (pre ++ [y])
    by_cases hki : k = y.1.1
    · subst hki
      refine ⟨_, _, UInt8.ofNat (x / 2 ^ (8 * y.1.1)), rfl, trivial, ?_⟩
      rw [Nat.zero_add, hR2.cell, putRow_snoc]
      have hl' := putRow_length (n := n) bs x pre
      simp [hl', y.2, bv]
    · obtain ⟨b, off, c, e, g, hc⟩ := h.by_ k hk
      cases e
      exact ⟨_, _, c, rfl, trivial, (hother ⟨w.heap.size + 1 + 1, 0 + (bs.length + k), none⟩ (by simp <;> omega)).trans hc⟩
  · rw [hW2]; exact Blk.far (cs := #[_]) hB' (p := ⟨w.heap.size + 1 + 1, bs.length + y.1.1, none⟩) (by simp <;> omega) _
  · rw [hW2]; exact Blk.far (cs := #[_]) hX' (p := ⟨w.heap.size + 1 + 1, bs.length + y.1.1, none⟩) (by simp) _
  · rw [hW2]; exact Blk.far (cs := #[_]) hL' (p := ⟨w.heap.size + 1 + 1, bs.length + y.1.1, none⟩) (by simp) _
  · rw [hW2]; exact (hB.setCell (p := ⟨w.heap.size + 1 + 1, bs.length + y.1.1, none⟩) (by simp <;> omega) _).drew

set_option maxRecDepth 100000 in
set_option maxHeartbeats 1000000 in
theorem put_in (A : Option Addr) (cap n x : Nat) (bs : List UInt8) (w : World) (hn : sizeB n = true) (hlm : bs.length ≤ 140737488355328) (hA : Bytes w A bs) :
    Calls Try.prog 38 #[.slice A bs.length cap, .int .u64 x, .int .i64 n] w fun e W' => e = .returned (.slice (some ⟨w.heap.size + 2, 0, none⟩) (bs.length + n) (bs.length + n)) ∧
      Blk W' (w.heap.size + 2) 5 ((bs ++ lePut x n).map bv).toArray ∧ Below w.heap.size w W' := by
  have hn8 : n ≤ 8 := by rcases (sizeB_iff n).1 hn with h | h | h | h <;> omega
  have hmk := run_mk8 (bs.length + n) (by omega)
  have e0 : (((bs.length + n : Nat) : Int)) = (bs.length : Int) + (n : Int) := by omega
  rw [e0] at hmk
  obtain ⟨wc, hwc⟩ : ∃ wc, (((w.alloc (.cells #[.slice A bs.length cap] 30)).alloc (.cells #[.int .u64 (x : Int)] 62)).alloc (.cells (mk8 (bs.length + n)) 5)).alloc (.cells #[.slice (some ⟨w.heap.size + 1 + 1, 0, none⟩) (bs.length + n) (bs.length + n)] 30) = wc := ⟨_, rfl⟩
  have cB : Boxed wc w.heap.size 30 (.slice A bs.length cap) := by rw [← hwc]; exact (((Boxed.new w _ _).alloc _).alloc _).alloc _
  have cX : Boxed wc (w.heap.size + 1) 62 (.int .u64 (x : Int)) := by
    have := Boxed.new (w.alloc (.cells #[.slice A bs.length cap] 30)) 62 (.int .u64 (x : Int))
    rw [World.size_alloc] at this
    rw [← hwc]; exact (this.alloc _).alloc _
  have cR : Blk wc (w.heap.size + 1 + 1) 5 (List.replicate (bs.length + n) (bv 0)).toArray := by
    have := Blk.new ((w.alloc (.cells #[.slice A bs.length cap] 30)).alloc (.cells #[.int .u64 (x : Int)] 62)) 5 (mk8 (bs.length + n))
    rw [World.size_alloc, World.size_alloc] at this
    rw [← hwc, ← mk8_eq]; exact this.alloc _
  have cL : Boxed wc (w.heap.size + 1 + 1 + 1) 30 (.slice (some ⟨w.heap.size + 1 + 1, 0, none⟩) (bs.length + n) (bs.length + n)) := by
    have := Boxed.new (((w.alloc (.cells #[.slice A bs.length cap] 30)).alloc (.cells #[.int .u64 (x : Int)] 62)).alloc (.cells (mk8 (bs.length + n)) 5)) 30 (.slice (some ⟨w.heap.size + 1 + 1, 0, none⟩) (bs.length + n) (bs.length + n))
    rw [World.size_alloc, World.size_alloc, World.size_alloc] at this
    rw [← hwc]; exact this
  have cW : Below w.heap.size w wc := by
    rw [← hwc]; exact ((((Below.refl _ w).alloc (Nat.le_refl _) _).alloc (by simp) _).alloc (by simp; omega) _).alloc (by simp; omega) _
  have csz : wc.heap.size = w.heap.size + 4 := by rw [← hwc]; simp
  obtain ⟨w1, hcp, hR1, hg1, hs1⟩ := run_copy8 wc 3 (w.heap.size + 1 + 1) (bs.length + n) (bs.length + n) A cap bs _ (hA.below cW) cR (by omega) (by simp)
  have dB := Blk.grown (cs := #[_]) cB hg1 (by simp; omega)
  have dX := Blk.grown (cs := #[_]) cX hg1 (by simp)
  have dL := Blk.grown (cs := #[_]) cL hg1 (by simp)
  have hB1 : Below w.heap.size w w1 := cW.grown hg1 (by omega) (fun k e => by cases e; omega)
  have hsz1 : w.heap.size + 4 ≤ w1.heap.size := by omega
  have fB : w1.cell? ⟨w.heap.size, 0, none⟩ = some (.slice A bs.length cap) := dB.cell 0
  have fX : w1.cell? ⟨w.heap.size + 1, 0, none⟩ = some (.int .u64 (x : Int)) := dX.cell 0
  have fL : w1.cell? ⟨w.heap.size + 1 + 1 + 1, 0, none⟩ = some (.slice (some ⟨w.heap.size + 1 + 1, 0, none⟩) (bs.length + n) (bs.length + n)) := dL.cell 0
  have DB := Lib.hid dB
  have DX := Lib.hid dX
  have DL := Lib.hid dL
  have DR := Lib.hid hR1
  have HB1 := Lib.hid hB1
  simp only [goInt] at hcp
  rw [← hwc] at hcp
  clear dB dX dL hR1 hB1 cB cX cR cL cW csz hs1 hg1 hwc
  refine (callsIn_wide (n := 5)).1 ?_
  have hro : (Fence.wide).round = none := rfl
  refine callsIn_of_wp_marks Try.func38 rfl trivial ?_ hro
  simp only [Try.ntmps38, List.size_toArray, List.length_cons, List.length_nil, Nat.reduceAdd, Nat.reduceSub, Array.replicate_succ, Array.replicate_zero, List.push_toArray, List.append_toArray, List.nil_append, List.cons_append]
  gi_wp2_with (first
    | (refine ⟨trivial, ?_⟩; gi_at_call 41; refine (callsIn_wide.2 (isSize_any _ _)).mono ?_; rintro e w' ⟨rfl, rfl⟩)
    | (refine ⟨trivial, ?_⟩; gi_at_call 43; refine (callsIn_wide.2 (field_any _ _ _ _ _ _)).mono ?_; rintro e w' ⟨rfl, rfl⟩))
  obtain ⟨ws, hws⟩ : ∃ ws, (((w1.alloc (.cells #[.slice (some ⟨w.heap.size + 1 + 1, 0, none⟩) (bs.length + n) (bs.length + n)] 30)).alloc (.cells #[.int .i64 (bs.length : Int)] 3)).alloc (.cells #[.int .i64 (n : Int)] 3)) = ws := ⟨_, rfl⟩
  have bB : Boxed ws w1.heap.size 30 (.slice (some ⟨w.heap.size + 1 + 1, 0, none⟩) (bs.length + n) (bs.length + n)) := by
    rw [← hws]; exact ((Boxed.new w1 _ _).alloc _).alloc _
  have bA : Boxed ws (w1.heap.size + 1) 3 (.int .i64 (bs.length : Int)) := by
    have := Boxed.new (w1.alloc (.cells #[.slice (some ⟨w.heap.size + 1 + 1, 0, none⟩) (bs.length + n) (bs.length + n)] 30)) 3 (.int .i64 (bs.length : Int))
    rw [World.size_alloc] at this
    rw [← hws]; exact this.alloc _
  have bN : Boxed ws (w1.heap.size + 2) 3 (.int .i64 (n : Int)) := by
    have := Boxed.new ((w1.alloc (.cells #[.slice (some ⟨w.heap.size + 1 + 1, 0, none⟩) (bs.length + n) (bs.length + n)] 30)).alloc (.cells #[.int .i64 (bs.length : Int)] 3)) 3 (.int .i64 (n : Int))
    rw [World.size_alloc, World.size_alloc] at this
    rw [← hws]; exact this
  have hk1 : Below w1.heap.size w1 ws := by
    rw [← hws]; exact (((Below.refl _ w1).alloc (Nat.le_refl _) _).alloc (by simp) _).alloc (by simp; omega) _
  have hB0 : Below w.heap.size w ws := HB1.out.trans (hk1.mono (by omega))
  have hsz : w1.heap.size + 3 ≤ ws.heap.size := by rw [← hws]; simp
  rw [hws]
  clear hws hmk hcp
  have eB : Boxed ws w.heap.size 30 (.slice A bs.length cap) := Blk.below (cs := #[_]) DB.out hk1 (by omega)
  have eX : Boxed ws (w.heap.size + 1) 62 (.int .u64 (x : Int)) := Blk.below (cs := #[_]) DX.out hk1 (by omega)
  have eL : Boxed ws (w.heap.size + 1 + 1 + 1) 30 (.slice (some ⟨w.heap.size + 1 + 1, 0, none⟩) (bs.length + n) (bs.length + n)) := Blk.below (cs := #[_]) DL.out hk1 (by omega)
  have eR : Blk ws (w.heap.size + 1 + 1) 5 (putRow (n := n) bs x []).toArray := by
    have := Blk.below DR.out hk1 (by omega)
    simpa [putRow] using this
  have hF0 : FInv (w1.heap.size + 2) w1.heap.size (w1.heap.size + 1) (some ⟨w.heap.size + 1 + 1, 0, none⟩) (bs.length + n) (bs.length + n) bs.length n (fun _ _ => True) ws :=
    ⟨bN.cell, bB.cell, bA.cell, fun k hk => ⟨w.heap.size + 1 + 1, 0, 0, rfl, trivial, by
      rw [Nat.zero_add, eR.cell]; simp [putRow]; rw [List.getElem?_append_right (by simp)]; simp [hk, bv]⟩⟩
  have HL := Lib.hid (putRow_came (n := n) bs x n)
  refine wpIn_rangeFunc_ownG hro (by omega) (gf := 45) (lb := #[.pointer (some ⟨w1.heap.size + 2, 0, none⟩), .pointer (some ⟨w1.heap.size, 0, none⟩), .pointer (some ⟨w1.heap.size + 1, 0, none⟩)]) rfl trivial (enters_of Try.func45 (by kernel_rfl) rfl)
    (field1_stops Fence.wide 4 trivial hro (by omega) _ _ _ _ (bs.length + n) (bs.length + n) bs.length n _ (Nat.le_refl _) (by omega) ws hF0) finv_t (fun W l o o' _ h hc _ => finv_b W l o o' h hc) (Below.refl _ _) (fun _ => rfl)
    (fun pre W => (Blk W (w.heap.size + 1 + 1) 5 (putRow bs x pre).toArray ∧ Boxed W w.heap.size 30 (.slice A bs.length cap) ∧ Boxed W (w.heap.size + 1) 62 (.int .u64 (x : Int)) ∧ Boxed W (w.heap.size + 1 + 1 + 1) 30 (.slice (some ⟨w.heap.size + 1 + 1, 0, none⟩) (bs.length + n) (bs.length + n))) ∧ Below w.heap.size w W)
    (fun _ _ _ => False)
    (OwnFrom.and (Own.from (fun s A B row hs hg hr => ⟨hs.1.kept hg hr, Blk.kept (cs := #[_]) hs.2.1 hg hr, Blk.kept (cs := #[_]) hs.2.2.1 hg hr, Blk.kept (cs := #[_]) hs.2.2.2 hg hr⟩) _) (ownFrom_below (Nat.le_refl _) (by omega)))
    (fun _ _ _ _ _ hs _ _ => hs)
    ⟨⟨eR, eB, eX, eL⟩, hB0⟩
    (fun y => { tmps := #[.slice A bs.length cap, .int .u64 x, .int .i64 n, .pointer (some ⟨w.heap.size, 0, none⟩), .pointer (some ⟨w.heap.size + 1, 0, none⟩), undef, .slice none 0 0, .pointer (some ⟨w.heap.size + 1 + 1 + 1, 0, none⟩), .int .i64 (y.1.1 : Int), .int .i64 n, .bool true, .bool false, undef, undef, .slice A bs.length cap, .int .i64 bs.length, .int .i64 n, .int .i64 (bs.length + n), .slice (some ⟨w.heap.size + 1 + 1, 0, none⟩) (bs.length + n) (bs.length + n), .slice (some ⟨w.heap.size + 1 + 1, 0, none⟩) (bs.length + n) (bs.length + n), .slice A bs.length cap, .int .i64 bs.length, .slice (some ⟨w.heap.size + 1 + 1, 0, none⟩) (bs.length + n) (bs.length + n), .slice A bs.length cap, .int .i64 bs.length, .int .i64 n, .func (.func 45) #[] #[.pointer (some ⟨w1.heap.size + 2, 0, none⟩), .pointer (some ⟨w1.heap.size, 0, none⟩), .pointer (some ⟨w1.heap.size + 1, 0, none⟩)], .int .i64 (y.1.1 : Int), .int .u8 (y.1.2.toNat : Int), undef, undef, undef, undef, undef, undef, undef, undef, undef, undef, undef, undef], defers := [] }) ?assign ?body ?done ?stop
  case assign =>
    intro l x W K hK
    dsimp only [bpair]
    gi_wp2
    exact hK
  case body =>
    rintro l pre ⟨⟨i, c⟩, hi⟩ W ⟨⟨hR, hB', hX', hL'⟩, hB⟩ _
    dsimp only at hi
    have g1 := hB'.cell
    have g2 := hX'.cell
    have g3 := hL'.cell
    have hl := putRow_length (n := n) bs x pre
    obtain ⟨u, hu⟩ : ∃ u, (putRow bs x pre)[bs.length + i]? = some u := ⟨_, List.getElem?_eq_getElem (by omega)⟩
    have hcell : W.cell? ⟨w.heap.size + 1 + 1, bs.length + i, none⟩ = some u := by rw [hR.cell]; simpa using hu
    have hfz := hR.frozen (bs.length + i)
    clear hl hu
    have FIN := Lib.hid (put_fin (ws := ws) (y := ⟨(i, c), hi⟩) hsz1 hR hB' hX' hL' hB)
    clear hR
    have hw8 : IntKind.i64.wrap (8 * (i : Int)) = 8 * i := IntWalk.i64_in _ (by omega)
    have hw9 : IntKind.i64.wrap ((bs.length : Int) + (i : Int)) = (bs.length : Int) + i := IntWalk.i64_in _ (by omega)
    have f3 : (0 : Int) ≤ 8 * (i : Int) := by omega
    have f4 : (0 : Int) ≤ (bs.length : Int) + (i : Int) := by omega
    have f5 : ((bs.length : Int) + (i : Int)).toNat = bs.length + i := by omega
    have f6 : (bs.length : Int) + (i : Int) < (bs.length : Int) + (n : Int) := by omega
    gi_wp2
    refine round_tail 11 (by kernel_rfl) (by kernel_rfl) (by kernel_rfl) ?hq ?_
    case hq => exact fun ⟨_, _, h⟩ => h
    simp only [List.take_succ_cons, List.take_zero, List.drop_succ_cons, List.drop_zero]
    repeat still_step
    try refine wpStill_nil ?_
    go_wp2
    exact FIN.out
  case done =>
    rintro D ys W hD hS ⟨⟨hR, hB', hX', hL'⟩, hB⟩ hK
    have g3 := hL'.cell
    have hfin : Blk W (w.heap.size + 1 + 1) 5 ((bs ++ lePut x n).map bv).toArray := by
      have e := HL.out ys (Nat.le_refl _) hS
      rw [e, Nat.sub_self, List.replicate_zero, List.append_nil, List.take_of_length_le (by rw [lePut_length]; exact Nat.le_refl _)] at hR
      exact hR
    clear hR
    have HF := Lib.hid hfin
    clear hfin
    gi_wp2
    refine ⟨by simp, .inl ⟨_, _, rfl, run_takeDeferred hK, ?_⟩⟩
    exact ⟨_, results_tmp rfl _ _ _, rfl, HF.out.putObj _ hK rfl, hB.trans (belowK_b (w := w) (Nat.le_refl _) W D _ _ (by omega) hK rfl rfl)⟩
  case stop =>
    rintro D c pre W _ _ h _
    exact h.elim

end Go.Proofs.Ytcmaehilgeonjaa
