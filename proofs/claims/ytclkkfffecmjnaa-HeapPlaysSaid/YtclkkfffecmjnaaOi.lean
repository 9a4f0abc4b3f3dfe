/- heap: slices.Sorted(maps.Keys(m)) of numbers: the library's contracts. -/
import Derived.Test.YtclkkfffecmjnaaC
import Derived.Shelf.SlIterI.Nil
import Derived.Shelf.SlIterI.Sorted
import Derived.Shelf.SortM.Plain
import Derived.Shelf.SortM.SortNone
namespace Go.Proofs.Ytclkkfffecmjnaa
open Go.RowKit Go.Shelf Go.Maps Go.Sort
def keysOi_ren : Go.Shelf.Ren := ⟨fun | 7 => 61 | 10 => 74 | n => n, fun | 23 => 78 | 26 => 3 | 3 => 3 | 28 => 93 | 0 => 0 | 27 => 92 | 33 => 84 | 4 => 4 | n => n, fun | n => n⟩
theorem keysOi : Go.Proofs.SlLaysZI.n7 Try.prog keysOi_ren := {
  mixed := by kernel_rfl
  f7 := ⟨Try.f61.name, by decide, Try.func61.trans (congrArg some (by kernel_rfl))⟩
  f10 := ⟨Try.f74.name, by decide, Try.func74.trans (congrArg some (by kernel_rfl))⟩
  t0 := Try.underlying0
  a0 := Try.isAgg0
  z0 := Try.sizeOf0
  v0 := Try.zeroValue0
  t4 := Try.underlying4
  a4 := Try.isAgg4
  z4 := Try.sizeOf4
  v4 := Try.zeroValue4
  t23 := Try.underlying78
  a23 := Try.isAgg78
  z23 := Try.sizeOf78
  v23 := Try.zeroValue78
  t26 := Try.underlying3
  a26 := Try.isAgg3
  z26 := Try.sizeOf3
  v26 := Try.zeroValue3
  t27 := Try.underlying92
  a27 := Try.isAgg92
  z27 := Try.sizeOf92
  v27 := Try.zeroValue92
  t28 := Try.underlying93
  a28 := Try.isAgg93
  z28 := Try.sizeOf93
  v28 := Try.zeroValue93
  t33 := Try.underlying84
  a33 := Try.isAgg84
  z33 := Try.sizeOf84
  v33 := Try.zeroValue84 }
def sortedOi_ren : Go.Shelf.Ren := ⟨fun | 6 => 60 | 8 => 73 | 9 => 59 | 11 => 89 | 13 => 72 | 12 => 71 | 23 => 87 | 24 => 88 | 14 => 78 | 15 => 79 | 16 => 80 | 17 => 81 | 18 => 82 | 19 => 83 | 20 => 84 | 21 => 85 | 22 => 86 | 25 => 91 | 26 => 92 | 27 => 93 | 28 => 94 | 29 => 95 | 30 => 96 | 31 => 97 | n => n, fun | 26 => 3 | 28 => 93 | 24 => 41 | 0 => 0 | 3 => 3 | 37 => 104 | 48 => 116 | 50 => 118 | 4 => 4 | 40 => 109 | 39 => 108 | 45 => 56 | 5 => 5 | 9 => 9 | 51 => 121 | 55 => 125 | 57 => 127 | 58 => 128 | 33 => 84 | n => n, fun | n => n⟩
theorem sortedOi : Go.Proofs.SlLaysZI.n6 Try.prog sortedOi_ren := {
  mixed := by kernel_rfl
  f6 := ⟨Try.f60.name, by decide, Try.func60.trans (congrArg some (by kernel_rfl))⟩
  f8 := ⟨Try.f73.name, by decide, Try.func73.trans (congrArg some (by kernel_rfl))⟩
  f11 := ⟨Try.f89.name, by decide, Try.func89.trans (congrArg some (by kernel_rfl))⟩
  t0 := Try.underlying0
  a0 := Try.isAgg0
  z0 := Try.sizeOf0
  v0 := Try.zeroValue0
  t24 := Try.underlying41
  a24 := Try.isAgg41
  z24 := Try.sizeOf41
  v24 := Try.zeroValue41
  t26 := Try.underlying3
  a26 := Try.isAgg3
  z26 := Try.sizeOf3
  v26 := Try.zeroValue3
  t28 := Try.underlying93
  a28 := Try.isAgg93
  z28 := Try.sizeOf93
  v28 := Try.zeroValue93
  i26 := by kernel_rfl }
def sortOi_ren : Go.Shelf.Ren := ⟨fun | 5 => 59 | 8 => 72 | 7 => 71 | 19 => 87 | 20 => 88 | 10 => 78 | 11 => 79 | 12 => 80 | 13 => 81 | 14 => 82 | 15 => 83 | 16 => 84 | 17 => 85 | 18 => 86 | 30 => 91 | 31 => 92 | 32 => 93 | 33 => 94 | 34 => 95 | 35 => 96 | 40 => 97 | n => n, fun | 23 => 41 | 25 => 3 | 3 => 3 | 32 => 104 | 22 => 41 | 0 => 0 | 44 => 116 | 46 => 118 | 4 => 4 | 36 => 109 | 35 => 108 | 41 => 56 | 5 => 5 | 9 => 9 | 53 => 121 | 57 => 125 | 63 => 127 | 64 => 128 | n => n, fun | n => n⟩
theorem sortOi : Go.Proofs.SlLaysM.n5 Try.prog sortOi_ren := {
  mixed := by kernel_rfl
  f5 := ⟨Try.f59.name, by decide, Try.func59.trans (congrArg some (by kernel_rfl))⟩
  f7 := ⟨Try.f71.name, by decide, Try.func71.trans (congrArg some (by kernel_rfl))⟩
  f8 := Try.func72.trans (congrArg some (by kernel_rfl))
  f10 := ⟨Try.f78.name, by decide, Try.func78.trans (congrArg some (by kernel_rfl))⟩
  f11 := ⟨Try.f79.name, by decide, Try.func79.trans (congrArg some (by kernel_rfl))⟩
  f12 := ⟨Try.f80.name, by decide, Try.func80.trans (congrArg some (by kernel_rfl))⟩
  f13 := ⟨Try.f81.name, by decide, Try.func81.trans (congrArg some (by kernel_rfl))⟩
  f14 := ⟨Try.f82.name, by decide, Try.func82.trans (congrArg some (by kernel_rfl))⟩
  f15 := ⟨Try.f83.name, by decide, Try.func83.trans (congrArg some (by kernel_rfl))⟩
  f16 := ⟨Try.f84.name, by decide, Try.func84.trans (congrArg some (by kernel_rfl))⟩
  f17 := ⟨Try.f85.name, by decide, Try.func85.trans (congrArg some (by kernel_rfl))⟩
  f18 := ⟨Try.f86.name, by decide, Try.func86.trans (congrArg some (by kernel_rfl))⟩
  f19 := Try.func87.trans (congrArg some (by kernel_rfl))
  f20 := Try.func88.trans (congrArg some (by kernel_rfl))
  f30 := ⟨Try.f91.name, by decide, Try.func91.trans (congrArg some (by kernel_rfl))⟩
  f31 := Try.func92.trans (congrArg some (by kernel_rfl))
  f32 := Try.func93.trans (congrArg some (by kernel_rfl))
  f33 := ⟨Try.f94.name, by decide, Try.func94.trans (congrArg some (by kernel_rfl))⟩
  f34 := ⟨Try.f95.name, by decide, Try.func95.trans (congrArg some (by kernel_rfl))⟩
  f35 := ⟨Try.f96.name, by decide, Try.func96.trans (congrArg some (by kernel_rfl))⟩
  f40 := ⟨Try.f97.name, by decide, Try.func97.trans (congrArg some (by kernel_rfl))⟩
  t0 := Try.underlying0
  a0 := Try.isAgg0
  z0 := Try.sizeOf0
  v0 := Try.zeroValue0
  t3 := Try.underlying3
  a3 := Try.isAgg3
  z3 := Try.sizeOf3
  v3 := Try.zeroValue3
  t4 := Try.underlying4
  a4 := Try.isAgg4
  z4 := Try.sizeOf4
  v4 := Try.zeroValue4
  t5 := Try.underlying5
  a5 := Try.isAgg5
  z5 := Try.sizeOf5
  v5 := Try.zeroValue5
  t9 := Try.underlying9
  a9 := Try.isAgg9
  z9 := Try.sizeOf9
  v9 := Try.zeroValue9
  t22 := Try.underlying41
  a22 := Try.isAgg41
  z22 := Try.sizeOf41
  v22 := Try.zeroValue41
  t23 := Try.underlying41
  a23 := Try.isAgg41
  z23 := Try.sizeOf41
  v23 := Try.zeroValue41
  t25 := Try.underlying3
  a25 := Try.isAgg3
  z25 := Try.sizeOf3
  v25 := Try.zeroValue3
  t32 := Try.underlying104
  a32 := Try.isAgg104
  z32 := Try.sizeOf104
  v32 := Try.zeroValue104
  t35 := Try.underlying108
  a35 := Try.isAgg108
  z35 := Try.sizeOf108
  v35 := Try.zeroValue108
  t36 := Try.underlying109
  a36 := Try.isAgg109
  z36 := Try.sizeOf109
  v36 := Try.zeroValue109
  t41 := Try.underlying56
  a41 := Try.isAgg56
  z41 := Try.sizeOf56
  v41 := Try.zeroValue56
  t44 := Try.underlying116
  a44 := Try.isAgg116
  z44 := Try.sizeOf116
  v44 := Try.zeroValue116
  t46 := Try.underlying118
  a46 := Try.isAgg118
  z46 := Try.sizeOf118
  v46 := Try.zeroValue118
  t53 := Try.underlying121
  a53 := Try.isAgg121
  z53 := Try.sizeOf121
  v53 := Try.zeroValue121
  t57 := Try.underlying125
  a57 := Try.isAgg125
  z57 := Try.sizeOf125
  v57 := Try.zeroValue125
  t63 := Try.underlying127
  a63 := Try.isAgg127
  z63 := Try.sizeOf127
  v63 := Try.zeroValue127
  t64 := Try.underlying128
  a64 := Try.isAgg128
  z64 := Try.sizeOf128
  v64 := Try.zeroValue128 }
/-- slices.Sort's two contracts. -/
theorem sortsOi (m : Nat) : AnyZI.SortsIn Try.prog sortedOi_ren Fence.wide m :=
  ⟨fun blk off cap ss W hH hblk hsz => callsIn_wide.2 (AnyM.slices_Sort_int sortOi blk off cap ss W hH hblk hsz),
   fun p cap W => callsIn_wide.2 (AnyM.slices_Sort_int_none sortOi p cap W)⟩
theorem keysOi_in (mb : Option Nat) (W : World) : CallsIn Fence.wide 5 Try.prog 61 #[.map mb] W fun e w' => e = .returned (.func (.func 74) #[] #[.pointer (some ⟨W.heap.size, 0, none⟩)]) ∧ w' = W.alloc (.cells #[.map mb] 78) :=
  AnyZI.keys_in keysOi Fence.wide 5 trivial rfl mb W
set_option maxHeartbeats 1000000 in
theorem sortedOi_in {H : Type} (b nn : Nat) (D0 : DataW H) (R : Value → Option (DataW H × List MemPlace)) (w : World) (hown : w.ownsMap Try.prog 3 R b nn D0) (hmax : Maps.size D0 ≤ maxLen) (hbytes : Maps.size D0 * 8 ≤ 140737488355328) :
    CallsIn Fence.wide 5 Try.prog 60 #[.func (.func 74) #[] #[.pointer (some ⟨w.heap.size, 0, none⟩)]] (w.alloc (.cells #[.map (some b)] 78)) fun e w' => ∃ (v : Value) (ss : List Int), e = .returned v ∧ ss.Perm (intKeys D0) ∧
      w'.ownsRow (w.alloc (.cells #[.map (some b)] 78)).heap.size 3 1 v ss.length ((ss.mergeSort (fun x y => decide (x ≤ y))).map encZ) ∧ (v = .slice none 0 0 ↔ ss = []) ∧ Below (w.alloc (.cells #[.map (some b)] 78)).heap.size (w.alloc (.cells #[.map (some b)] 78)) w' := by
  have hbl := hown.lt
  have hseq : SeqGives Fence.wide 2 Try.prog 74 #[.pointer (some ⟨w.heap.size, 0, none⟩)] encZ (fun ss => ss.Perm (intKeys D0)) (Maps.size D0) (w.alloc (.cells #[.map (some b)] 78)) :=
    AnyZI.keys_gives (ρ := keysOi_ren) { keysOi with } Fence.wide _ trivial rfl (by omega) w.heap.size b nn D0 _ (by simp) (by simp) (by
      obtain ⟨es, clock, hb, Ft, hs, hD⟩ := hown
      exact ⟨es, clock, (Below.heap_alloc _ _ b hbl).trans hb, Ft, hs, hD⟩)
  exact AnyZI.sorted_in sortedOi Fence.wide 5 trivial trivial trivial trivial rfl (by omega) (sortsOi _) (enters_of Try.func59 (by kernel_rfl) rfl) 74 #[.pointer (some ⟨w.heap.size, 0, none⟩)] trivial (enters_of Try.func74 (by kernel_rfl) rfl) _ _ hmax hbytes _ hseq
/-- The oids, rising. -/
def oidsL (H : HS) : List Int := (H.T.map fun p => (p.2 : Int)).mergeSort (fun x y => decide (x ≤ y))
theorem oidsL_len (H : HS) : (oidsL H).length = H.T.length := by unfold oidsL; rw [List.length_mergeSort, List.length_map]
theorem oidsL_mem {H : HS} {z : Int} : z ∈ oidsL H ↔ ∃ p ∈ H.T, (p.2 : Int) = z := by unfold oidsL; rw [List.mem_mergeSort, List.mem_map]
theorem oidsL_nodup {H : HS} {t : Nat} (hok : H.Ok t) : (H.T.map fun p => (p.2 : Int)).Nodup := by
  unfold List.Nodup
  rw [List.pairwise_map]
  exact hok.ties.imp fun {a b} h e => h.2 (by omega)
theorem oidsL_rise {H : HS} {t : Nat} (hok : H.Ok t) : (oidsL H).Pairwise fun a b => a < b := by
  have h1 : (oidsL H).Pairwise fun a b => a ≤ b := (List.pairwise_mergeSort (le := fun x y : Int => decide (x ≤ y)) (fun a b c h1 h2 => by simp at h1 h2 ⊢; omega) (fun a b => by simp; omega) _).imp fun {a b} h => by simpa using h
  have h2 : (oidsL H).Nodup := (List.mergeSort_perm _ _).nodup_iff.2 (oidsL_nodup hok)
  unfold List.Nodup at h2
  exact (h1.and h2).imp fun {a b} h => by omega
theorem oids_any {w : World} {M : Mem} {n t : Nat} {H : HS} (h : HM w M n H) (hok : H.Ok t) (hn : n ≤ 800000) :
    Calls Try.prog 26 #[.pointer (some ⟨M.g, 0, none⟩)] w fun e w' => ∃ v, e = .returned v ∧ w'.ownsRow w.heap.size 3 1 v (oidsL H).length ((oidsL H).map (Value.int .i64)) ∧ Below w.heap.size w w' := by
  refine (callsIn_wide (n := 6)).1 ?_
  obtain ⟨D, hown, hsz, hS⟩ := h.has
  have hle := hown.size_le
  have hperm : ∀ ss : List Int, ss.Perm (intKeys D) → ss.mergeSort (fun x y => decide (x ≤ y)) = oidsL H ∧ ss.length = (oidsL H).length := fun ss hss => by
    have hk : Try.prog.underlying 3 = some (.int .i64) := Try.underlying3
    have hkeys : (H.T.map fun p => (p.2 : Int)).Perm (intKeys D) := by
      obtain ⟨es, hD, hpw, _⟩ := hown.entries (Maps.int_keyed hk)
      obtain ⟨es', hD', hko⟩ := hown.keysOf
      obtain rfl : es = es' := by rw [hD] at hD'; simpa using hD'
      have hwf := intKeys_wf hown hk
      subst hD
      have hint : ∀ p ∈ es, ∃ x, p.1 = .int .i64 x := fun p hp => by obtain ⟨v, hv⟩ := hko p hp; obtain ⟨x, _, hx, _⟩ := Maps.keyOf_i64 hk hv; exact ⟨x, hx⟩
      refine perm_intKeys hpw hint (oidsL_nodup hok) fun x => ?_
      by_cases hx : (Lit.int .i64 x).wf = true
      · rw [(hS x hx).2]
        constructor
        · intro hm
          obtain ⟨p, hp, rfl⟩ := List.mem_map.1 hm
          cases ho : H.ofOid (p.2 : Int) with
          | some v => rfl
          | none => exact absurd rfl (HS.of_none ho p hp)
        · intro hm
          obtain ⟨v, hv⟩ := Option.isSome_iff_exists.1 hm
          obtain ⟨p, hp, e, _⟩ := HS.of_some hv
          exact List.mem_map.2 ⟨p, hp, e⟩
      · constructor
        · intro hm
          obtain ⟨p, hp, rfl⟩ := List.mem_map.1 hm
          have := (hok.tied p hp).2
          exact absurd (WalkArith.wf_i64 (by omega)) hx
        · intro hm
          exfalso
          rw [Maps.has_eq, List.any_eq_true] at hm
          obtain ⟨p, hp, hs⟩ := hm
          obtain ⟨a, ha⟩ := hint p hp
          rw [ha] at hs
          have e : a = x := by simpa [Lit.sameKey] using hs
          exact hx (hwf x (List.mem_map.2 ⟨p, hp, by rw [ha, e]; rfl⟩))
    have hp2 : ss.Perm (H.T.map fun p => (p.2 : Int)) := hss.trans hkeys.symm
    exact ⟨mergeSort_of_perm_i hp2, by rw [oidsL_len, hp2.length_eq, List.length_map]⟩
  have cS := sortedOi_in M.ha n D _ w hown (by unfold maxLen; omega) (by omega)
  obtain ⟨e0, e1, e2, e3, e4, e5, _⟩ := h.told
  have hlt := h.has.lt
  have HP := Lib.hid hperm
  have HCS := Lib.hid cS
  clear hperm cS hown hsz hS hle
  have hfK : Fence.wide.fn 61 := trivial
  have hfS : Fence.wide.fn 60 := trivial
  refine callsIn_of_wp Try.func26 rfl trivial ?_ rfl
  simp only [Try.ntmps26, List.size_toArray, List.length_cons, List.length_nil, Nat.reduceAdd, Nat.reduceSub, Array.replicate_succ, Array.replicate_zero, List.push_toArray, List.append_toArray, List.nil_append, List.cons_append]
  gi_wp2_with (first
    | (gi_at_call 61; refine (keysOi_in _ _).mono ?_; rintro e w' ⟨rfl, rfl⟩)
    | (gi_at_call 60; refine CallsIn.mono HCS.out ?_; rintro e w' ⟨v, ss, rfl, hS, hrow, hnil, hb⟩))
  go_ret
  obtain ⟨e1, e2⟩ := HP.out ss hS
  refine ⟨v, rfl, ?_, ((Below.refl _ w).alloc (Nat.le_refl _) _).trans (hb.mono (by simp))⟩
  rw [e1, e2] at hrow
  exact ownsRow_base_a hrow (by simp)
end Go.Proofs.Ytclkkfffecmjnaa
