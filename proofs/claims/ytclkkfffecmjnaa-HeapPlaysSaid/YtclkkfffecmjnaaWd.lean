/- heap: the document's heap: Dirty, Oids. -/
import Derived.Test.YtclkkfffecmjnaaWa
import Derived.Test.YtclkkfffecmjnaaAp
import Derived.Test.YtclkkfffecmjnaaOi
namespace Go.Proofs.Ytclkkfffecmjnaa
open Go.RowKit
set_option linter.unusedVariables false
set_option linter.unusedSimpArgs false
attribute [local go_sem] Oper.semAt_some
/-- Numbers in a row of the call's own. -/
structure ZR (w wr : World) (v : Value) (zs : List Int) : Prop where
  own : wr.ownsRow w.heap.size 3 1 v zs.length (zs.map (Value.int .i64))
  bel : Below w.heap.size w wr
section
variable {w wr w2 : World} {v : Value} {zs : List Int}
theorem ZR.nil (w : World) : ZR w w (.slice none 0 0) [] := ⟨World.ownsRow_nil _ _ _ _, Below.refl _ _⟩
theorem ZR.nil_at (h : Below w.heap.size w wr) : ZR w wr (.slice none 0 0) [] := ⟨World.ownsRow_nil _ _ _ _, h⟩
theorem ZR.below (h : ZR w wr v zs) (hb : Below wr.heap.size wr w2) : ZR w w2 v zs := ⟨own_below h.own hb, h.bel.trans (hb.mono h.bel.size)⟩
theorem ZR.shape (h : ZR w wr v zs) : ∃ A c, v = .slice A zs.length c ∧ zs.length ≤ c ∧ c ≤ maxLen := by
  rcases h.own.2 with ⟨rfl, h0⟩ | ⟨g, cap, cur, rfl, _, _, h1, h2, _⟩
  · exact ⟨none, 0, by rw [h0], by omega, Nat.zero_le _⟩
  · exact ⟨_, _, rfl, h1, h2⟩
theorem ZR.ints {A : Option Addr} {n c : Nat} (h : ZR w wr (.slice A n c) zs) (hn : n = zs.length) (hr : ∀ z ∈ zs, -9223372036854775808 ≤ z ∧ z < 9223372036854775808) : Ints wr A zs := by
  subst hn
  exact Ints.of_own h.own hr
theorem ZR.app (h : ZR w wr v zs) (A : Option Addr) (len c : Nat) (ks : List Int) (hlen : ks.length = len) (hA : Ints wr A ks) (hb : zs.length + len ≤ 140737488355) :
    ∃ v' w', (Builtin.append_ #[41, 41] 41 #[v, .slice A len c]).run Try.prog wr = .ok v' w' ∧ ZR w w' v' (zs ++ ks) := by
  obtain ⟨v', w', hrun, h2, h3⟩ := run_appI wr w.heap.size v zs.length zs h.own A len c ks hlen hA hb h.bel.size
  refine ⟨v', w', hrun, by rw [List.length_append, hlen]; exact h2, h.bel.grown h3 h.bel.size fun k e => (h.own.lt k e).1⟩
theorem Ints.one (w : World) (z : Int) (hz : -9223372036854775808 ≤ z ∧ z < 9223372036854775808) : Ints (w.alloc (.cells #[.int .i64 z] 3)) (some ⟨w.heap.size, 0, none⟩) [z] := fun k y hk => by
  rcases k with _ | k
  · cases hk
    exact ⟨w.heap.size, 0, rfl, by simp, (Blk.new w 3 #[.int .i64 z]).cell 0, hz⟩
  · simp at hk
end
section
variable {w w' : World} {r t : Nat} {R : Nat → Lab} {H : HS}
theorem dl_zero (H : HS) : dl H 0 = [] := by unfold dl; rw [low_zero]; rfl
theorem dl_end (hok : H.Ok t) : dl H (H.count + 1) = dirtyL H := by unfold dl dirtyL; rw [low_all hok]
theorem dl_short (H : HS) (k : Nat) : (dl H k).length ≤ H.L.length := by
  unfold dl lowL
  rw [List.length_map]
  exact Nat.le_trans (List.length_filter_le _ _) (List.length_filter_le _ _)
theorem dirty_rng (hok : H.Ok t) (hcn : H.count ≤ 100000) : ∀ z ∈ nums (dirtyL H), -9223372036854775808 ≤ z ∧ z < 9223372036854775808 := fun z hz => by
  obtain ⟨v, hv, rfl⟩ := nums_mem.1 hz
  obtain ⟨x, hx, _, rfl⟩ := dirtyL_mem.1 hv
  have := hok.inn x hx
  omega
set_option maxRecDepth 20000 in
set_option maxHeartbeats 2000000 in
theorem rdirty_any (h : RX w r R H) (hok : H.Ok t) (hcn : H.count ≤ 100000) (hll : H.L.length ≤ 100000) :
    Calls Try.prog 25 #[.pointer (some ⟨r, 0, none⟩)] w fun e w' => ∃ A c, e = .returned (.slice A (dirtyL H).length c) ∧ Ints w' A (nums (dirtyL H)) ∧ Below w.heap.size w w' := by
  obtain ⟨q, c, T, hm, hs⟩ := h
  have hlen := hs.len
  obtain ⟨n, hn⟩ : ∃ n, T.length = n := ⟨_, rfl⟩
  rw [hn] at hlen
  have HI := Lib.hid (And.intro hm (And.intro hs (And.intro hok hn)))
  have HL := Lib.hid (And.intro hlen (And.intro hll (dirty_rng hok hcn)))
  have hnb : n ≤ 100001 := by omega
  clear hm hs hok hn hlen hcn hll
  go_enter Try.func25, Try.ntmps25
  go_wp2_with fail
  go_loopw [3, 4] (fun lv iv wr => ∃ i : Nat, i ≤ n ∧ iv = .int .i64 (i : Int) ∧ Hid (ZR w wr lv (nums (dl H i)))) (fun _ iv _ => n - (intOf iv).toNat)
  case atStart => exact ⟨0, Nat.zero_le _, rfl, Lib.hid (by rw [dl_zero]; exact ZR.nil w)⟩
  case round =>
    obtain ⟨i, hi, rfl, hJ⟩ := hrel
    obtain ⟨hm, hs, hok, hn⟩ := HI.out
    have h1 := hm.below hJ.out.bel
    obtain ⟨c0, c1, cf⟩ := h1.told
    rw [hn] at c1
    by_cases hlt : i < n
    · have hd : decide ((i : Int) < (n : Int)) = true := by simpa using hlt
      obtain ⟨x, hx⟩ : ∃ x, T[i]? = some x := ⟨_, List.getElem?_eq_getElem (by omega)⟩
      obtain ⟨_, _, _, _, q4, _, q6⟩ := h1.row.told hx
      obtain ⟨_, s2, _, s4⟩ := hs.at_ i x hx
      rw [s2] at q4
      rw [s4] at q6
      have hsucc := dl_succ hok i
      obtain ⟨b, hb⟩ : ∃ b, (H.obj (i : Int)).isSome = b := ⟨_, rfl⟩
      obtain ⟨d, hdd⟩ : ∃ d, isD H (i : Int) = d := ⟨_, rfl⟩
      have hbd : d = true → b = true := fun e => by
        rw [← hdd] at e
        rw [← hb]
        cases ho : H.obj (i : Int) with
        | none => rw [isD_no ho] at e; cases e
        | some y => rfl
      rw [hb] at q4
      rw [hdd] at q6 hsucc
      cases d with
      | false =>
        have HS9 : Hid (dl H (i + 1) = dl H i) := Lib.hid (by rw [hsucc]; simp)
        clear hsucc hbd hdd hm hs hok hn h1 hx s2 s4 hb
        cases b with
        | false =>
          go_wp2_with fail
          go_roundw
          case rel => exact ⟨i + 1, by omega, by go_num, Lib.hid (by rw [HS9.out]; exact hJ.out)⟩
          case measure => simp [intOf]; omega
        | true =>
          go_wp2_with fail
          go_roundw
          case rel => exact ⟨i + 1, by omega, by go_num, Lib.hid (by rw [HS9.out]; exact hJ.out)⟩
          case measure => simp [intOf]; omega
      | true =>
        have hbt := hbd rfl
        subst hbt
        have HS9 : Hid (nums (dl H (i + 1)) = nums (dl H i) ++ [(i : Int)]) := Lib.hid (by rw [hsucc]; unfold nums; simp)
        have hlong := dl_short H i
        have hll := HL.out.2.1
        obtain ⟨wb, hwb⟩ : ∃ wb, wr.alloc (.cells #[.int .i64 (i : Int)] 3) = wb := ⟨_, rfl⟩
        have hbb : Below wr.heap.size wr wb := by rw [← hwb]; exact (Below.refl _ _).alloc (Nat.le_refl _) _
        have hone := Ints.one wr (i : Int) (by omega)
        rw [hwb] at hone
        obtain ⟨v', w9, hrun, hz9⟩ := (hJ.out.below hbb).app (some ⟨wr.heap.size, 0, none⟩) 1 1 [(i : Int)] rfl hone (by rw [nums_len]; omega)
        rw [← HS9.out] at hz9
        have HZ9 := Lib.hid hz9
        have HRUN := Lib.hid hrun
        clear hsucc hbd hdd hm hs hok hn h1 hx s2 s4 hb hlong hll hbb hone hrun hz9 hJ
        go_wp2_with (at_builtin; refine wpList_app rfl _ _ 41 rfl _ _ _ _ rfl rfl HRUN.out ?_; clear HRUN)
        go_roundw
        case rel => exact ⟨i + 1, by omega, by go_num, HZ9⟩
        case measure => simp [intOf]; omega
    · obtain rfl : n = i := by omega
      have hd : decide ((n : Int) < (n : Int)) = false := by simp
      have hz := hJ.out
      rw [show dl H n = dirtyL H by rw [HL.out.1]; exact dl_end hok] at hz
      obtain ⟨A9, c9, e9, _⟩ := hz.shape
      rw [nums_len] at e9
      subst e9
      have HA := Lib.hid (And.intro (hz.ints (nums_len _).symm HL.out.2.2) hz.bel)
      clear hm hs hok hn h1 hz hJ
      go_wp2_with fail
      go_ret
      exact ⟨A9, c9, rfl, HA.out⟩
end
end Go.Proofs.Ytclkkfffecmjnaa
namespace Go.Proofs.Ytclkkfffecmjnaa
open Go.RowKit
set_option linter.unusedVariables false
set_option linter.unusedSimpArgs false
attribute [local go_sem] Oper.semAt_some
theorem addr_add {b off : Nat} (i : Nat) : (⟨b, off, none⟩ : Addr).add i = ⟨b, off + i, none⟩ := by unfold Addr.add; split <;> simp_all
theorem Try.sizeI (W : World) : (sizeOf (Try.prog.elem 41)).run Try.prog W = .ok 1 W := by kernel_rfl
theorem Ints.take {W : World} {A : Option Addr} {zs : List Int} (h : Ints W A zs) (k : Nat) : Ints W A (zs.take k) := fun j z hj => by
  rw [List.getElem?_take] at hj
  split at hj
  · exact h j z hj
  · cases hj
theorem Ints.from {W : World} {b off k : Nat} {zs : List Int} (h : Ints W (some ⟨b, off, none⟩) zs) : Ints W (some ⟨b, off + k, none⟩) (zs.drop k) := fun j z hj => by
  rw [List.getElem?_drop] at hj
  obtain ⟨b', off', e, h1, h2, h3⟩ := h _ z hj
  cases e
  exact ⟨_, _, rfl, h1, by rw [Nat.add_assoc]; exact h2, h3⟩
/-- A number set in. -/
theorem insert_rise {zs : List Int} {x : Int} {k : Nat} (hr : zs.Pairwise fun a b => a < b) (hk : k ≤ zs.length) (hx : x ∉ zs) (hup : ∀ j z, k ≤ j → zs[j]? = some z → x < z) (hlo : ∀ z, 0 < k → zs[k - 1]? = some z → z ≤ x) :
    (zs.take k ++ [x] ++ zs.drop k).Pairwise fun a b => a < b := by
  have hlow : ∀ a ∈ zs.take k, a < x := fun a ha => by
    obtain ⟨j, hj⟩ := List.getElem?_of_mem ha
    rw [List.getElem?_take] at hj
    split at hj
    · next hjk =>
      obtain ⟨hj1, hj2⟩ := List.getElem?_eq_some_iff.1 hj
      have h1 : zs[k - 1]? = some (zs[k - 1]'(by omega)) := List.getElem?_eq_getElem _
      have h2 := hlo _ (by omega) h1
      have h3 : a ≤ zs[k - 1]'(by omega) := by
        by_cases e : j = k - 1
        · subst e; rw [hj2]; exact Int.le_refl _
        · have := List.pairwise_iff_getElem.1 hr j (k - 1) hj1 (by omega) (by omega)
          rw [hj2] at this
          exact Int.le_of_lt this
      have h4 : a ≠ x := fun e => hx (by rw [← e]; exact List.mem_of_mem_take ha)
      omega
    · cases hj
  have hhigh : ∀ b ∈ zs.drop k, x < b := fun b hb => by
    obtain ⟨j, hj⟩ := List.getElem?_of_mem hb
    rw [List.getElem?_drop] at hj
    exact hup _ b (by omega) hj
  rw [List.append_assoc, List.pairwise_append]
  refine ⟨hr.sublist (List.take_sublist _ _), ?_, fun a ha b hb => ?_⟩
  · rw [List.singleton_append, List.pairwise_cons]
    exact ⟨hhigh, hr.sublist (List.drop_sublist _ _)⟩
  · rw [List.singleton_append] at hb
    rcases List.mem_cons.1 hb with rfl | hb
    · exact hlow a ha
    · have h1 := hlow a ha
      have h2 := hhigh b hb
      omega
theorem insert_mem {zs : List Int} {x z : Int} {k : Nat} : z ∈ zs.take k ++ [x] ++ zs.drop k ↔ z = x ∨ z ∈ zs := by
  have h : z ∈ zs ↔ z ∈ zs.take k ∨ z ∈ zs.drop k := by rw [← List.mem_append, List.take_append_drop]
  rw [h]
  simp only [List.mem_append, List.mem_singleton]
  constructor
  · rintro ((h | h) | h)
    · exact .inr (.inl h)
    · exact .inl h
    · exact .inr (.inr h)
  · rintro (h | h | h)
    · exact .inl (.inr h)
    · exact .inl (.inl h)
    · exact .inr h
theorem rise_one : ∀ {a b : List Int}, a.Pairwise (fun x y => x < y) → b.Pairwise (fun x y => x < y) → (∀ z, z ∈ a ↔ z ∈ b) → a = b
  | [], [], _, _, _ => rfl
  | [], y :: b, _, _, h => absurd ((h y).2 (List.mem_cons_self ..)) (by simp)
  | x :: a, [], _, _, h => absurd ((h x).1 (List.mem_cons_self ..)) (by simp)
  | x :: a, y :: b, h1, h2, h => by
    obtain ⟨h1a, h1b⟩ := List.pairwise_cons.1 h1
    obtain ⟨h2a, h2b⟩ := List.pairwise_cons.1 h2
    have e : x = y := by
      rcases List.mem_cons.1 ((h x).1 (List.mem_cons_self ..)) with e | e
      · exact e
      · rcases List.mem_cons.1 ((h y).2 (List.mem_cons_self ..)) with e2 | e2
        · exact e2.symm
        · have := h1a y e2
          have := h2a x e
          omega
    subst e
    rw [rise_one h1b h2b fun z => ?_]
    have hz := h z
    constructor
    · intro hm
      rcases List.mem_cons.1 (hz.1 (List.mem_cons_of_mem _ hm)) with e | e
      · have := h1a z hm; omega
      · exact e
    · intro hm
      rcases List.mem_cons.1 (hz.2 (List.mem_cons_of_mem _ hm)) with e | e
      · have := h2a z hm; omega
      · exact e
/-- The oids of handles below i, rising. -/
structure OL (H : HS) (i : Nat) (zs : List Int) : Prop where
  rise : zs.Pairwise fun a b => a < b
  mem : ∀ z, z ∈ zs ↔ ∃ j o : Nat, j < i ∧ H.oidOf (j : Int) = some o ∧ z = (o : Int)
  len : zs.length ≤ i
section
variable {w w' : World} {r t : Nat} {R : Nat → Lab} {H : HS}
theorem OL.zero (H : HS) : OL H 0 [] := ⟨List.Pairwise.nil, fun z => ⟨(fun h => by cases h), fun ⟨j, o, h, _⟩ => absurd h (Nat.not_lt_zero j)⟩, Nat.le_refl _⟩
theorem OL.skip {i : Nat} {zs : List Int} (h : OL H i zs) (hn : H.oidOf (i : Int) = none) : OL H (i + 1) zs :=
  ⟨h.rise, fun z => (h.mem z).trans ⟨fun ⟨j, o, h1, h2⟩ => ⟨j, o, by omega, h2⟩, fun ⟨j, o, h1, h2, h3⟩ => ⟨j, o, by
    by_cases e : j = i
    · rw [e, hn] at h2; cases h2
    · omega, h2, h3⟩⟩, by have := h.len; omega⟩
theorem OL.fresh (hok : H.Ok t) {i o : Nat} {zs : List Int} (h : OL H i zs) (ho : H.oidOf (i : Int) = some o) : (o : Int) ∉ zs := fun hm => by
  obtain ⟨j, o', h1, h2, h3⟩ := (h.mem _).1 hm
  have e : o' = o := by omega
  subst e
  have e1 := ofOid_of hok h2
  have e2 := ofOid_of hok ho
  rw [e1] at e2
  cases e2
  omega
theorem OL.put (hok : H.Ok t) {i o k : Nat} {zs : List Int} (h : OL H i zs) (ho : H.oidOf (i : Int) = some o) (hk : k ≤ zs.length) (hup : ∀ j z, k ≤ j → zs[j]? = some z → (o : Int) < z) (hlo : ∀ z, 0 < k → zs[k - 1]? = some z → z ≤ (o : Int)) :
    OL H (i + 1) (zs.take k ++ [(o : Int)] ++ zs.drop k) := by
  refine ⟨insert_rise h.rise hk (h.fresh hok ho) hup hlo, fun z => ?_, ?_⟩
  · rw [insert_mem, h.mem]
    constructor
    · rintro (rfl | ⟨j, o', h1, h2⟩)
      · exact ⟨i, o, by omega, ho, rfl⟩
      · exact ⟨j, o', by omega, h2⟩
    · rintro ⟨j, o', h1, h2, h3⟩
      by_cases e : j = i
      · subst e
        rw [ho] at h2
        cases h2
        exact .inl h3
      · exact .inr ⟨j, o', by omega, h2, h3⟩
  · have := h.len
    simp
    omega
theorem OL.all (hok : H.Ok t) {zs : List Int} (h : OL H (H.count + 1) zs) : zs = oidsL H := rise_one h.rise (oidsL_rise hok) fun z => by
  rw [h.mem, oidsL_mem]
  constructor
  · rintro ⟨j, o, _, h2, rfl⟩
    obtain ⟨p, hp, _, e⟩ := HS.oid_some h2
    exact ⟨p, hp, by rw [e]⟩
  · rintro ⟨p, hp, rfl⟩
    obtain ⟨⟨x, hx, e⟩, _⟩ := hok.tied p hp
    have hin := hok.inn x hx
    cases ho : H.oidOf (p.1 : Int) with
    | none => exact absurd rfl (HS.oid_none ho p hp)
    | some v =>
      obtain ⟨p', hp', e1, e2⟩ := HS.oid_some ho
      have epp : p = p' := by
        by_cases e : p = p'
        · exact e
        · exact absurd (by omega) (pw_ne hok.ties p hp p' hp' e).1
      exact ⟨p.1, v, by omega, ho, by rw [epp, e2]⟩
theorem OL.rng (hok : H.Ok t) {i : Nat} {zs : List Int} (h : OL H i zs) : ∀ z ∈ zs, 1 ≤ z ∧ z ≤ 16384 := fun z hz => by
  obtain ⟨j, o, _, h2, rfl⟩ := (h.mem z).1 hz
  have := oid_pos hok h2
  omega
set_option maxRecDepth 20000 in
set_option maxHeartbeats 4000000 in
theorem roids_any (h : RX w r R H) (hok : H.Ok t) (hcn : H.count ≤ 100000) :
    Calls Try.prog 27 #[.pointer (some ⟨r, 0, none⟩)] w fun e w' => ∃ A c, e = .returned (.slice A (oidsL H).length c) ∧ Ints w' A (oidsL H) ∧ Below w.heap.size w w' := by
  obtain ⟨q, c, T, hm, hs⟩ := h
  have hlen := hs.len
  obtain ⟨n, hn⟩ : ∃ n, T.length = n := ⟨_, rfl⟩
  rw [hn] at hlen
  have HI := Lib.hid (And.intro hm (And.intro hs (And.intro hok hn)))
  have HL := Lib.hid hlen
  have hnb : n ≤ 100001 := by omega
  clear hm hs hok hn hlen hcn
  go_enter Try.func27, Try.ntmps27
  go_wp2_with fail
  go_loopw [3, 4] (fun lv iv wr => ∃ (i : Nat) (zs : List Int), i ≤ n ∧ iv = .int .i64 (i : Int) ∧ Hid (ZR w wr lv zs ∧ OL H i zs)) (fun _ iv _ => n - (intOf iv).toNat)
  case atStart => exact ⟨0, [], Nat.zero_le _, rfl, Lib.hid ⟨ZR.nil w, OL.zero H⟩⟩
  case round =>
    obtain ⟨i, zs, hi, rfl, hJ⟩ := hrel
    obtain ⟨hm, hs, hok, hn⟩ := HI.out
    have h1 := hm.below hJ.out.1.bel
    obtain ⟨c0, c1, cf⟩ := h1.told
    rw [hn] at c1
    obtain ⟨A9, c9, hlv, hlc, hmx⟩ := hJ.out.1.shape
    obtain ⟨l, hl⟩ : ∃ l, zs.length = l := ⟨_, rfl⟩
    rw [hl] at hlv hlc
    subst hlv
    by_cases hlt : i < n
    · have hd : decide ((i : Int) < (n : Int)) = true := by simpa using hlt
      obtain ⟨x, hx⟩ : ∃ x, T[i]? = some x := ⟨_, List.getElem?_eq_getElem (by omega)⟩
      obtain ⟨_, _, _, _, _, q5, _⟩ := h1.row.told hx
      obtain ⟨_, _, s3, _⟩ := hs.at_ i x hx
      rw [s3] at q5
      cases ho : H.oidOf (i : Int) with
      | none =>
        rw [ho, Option.getD_none] at q5
        have HS9 := Lib.hid (hJ.out.2.skip ho)
        clear hm hs hok hn h1 hx s3 ho hl hlc hmx
        go_wp2_with fail
        go_roundw
        case rel => exact ⟨i + 1, zs, by omega, by go_num, Lib.hid ⟨hJ.out.1, HS9.out⟩⟩
        case measure => simp [intOf]; omega
      | some o =>
        rw [ho, Option.getD_some] at q5
        have hop := oid_pos hok ho
        have hd0 : ((o : Int) == 0) = false := by simp; omega
        have hll := hJ.out.2.len
        rw [hl] at hll
        have HINT := Lib.hid (hJ.out.1.ints hl.symm fun z hz => by have := hJ.out.2.rng hok z hz; omega)
        have HO := Lib.hid (And.intro ho (And.intro hl (And.intro hlc (And.intro hmx hok))))
        unfold maxLen at hmx
        clear hm hs hok hn h1 hx s3 ho hl
        go_wp2_with fail
        go_loopw [6] (fun kv wx => ∃ k : Nat, k ≤ l ∧ kv = .int .i64 (k : Int) ∧ wx = wr ∧ Hid (∀ j z, k ≤ j → zs[j]? = some z → (o : Int) < z)) (fun kv _ => (intOf kv).toNat)
        case atStart => exact ⟨l, Nat.le_refl _, rfl, rfl, Lib.hid fun j z h1 h2 => by have := (List.getElem?_eq_some_iff.1 h2).1; have := HO.out.2.1; omega⟩
        case round =>
          obtain ⟨k, hk, rfl, rfl, hU⟩ := hrel
          have hcont : Hid ((∀ z, 0 < k → zs[k - 1]? = some z → z ≤ (o : Int)) → ∀ A2 c2, (∀ W, Ints W A9 zs → Ints W A2 (zs.drop k)) →
              ∃ B1 d1 w1, (Builtin.append_ #[41, 41] 41 #[.slice none 0 0, .slice A9 k c9]).run Try.prog wr = .ok (.slice B1 k d1) w1 ∧
              ∃ B2 d2 w2, (Builtin.append_ #[41, 41] 41 #[.slice B1 k d1, .slice (some ⟨w1.heap.size, 0, none⟩) 1 1]).run Try.prog (w1.alloc (.cells #[.int .i64 (o : Int)] 3)) = .ok (.slice B2 (k + 1) d2) w2 ∧
              ∃ B3 n3 d3 w3, (Builtin.append_ #[41, 41] 41 #[.slice B2 (k + 1) d2, .slice A2 (l - k) c2]).run Try.prog w2 = .ok (.slice B3 n3 d3) w3 ∧ Hid (ZR w w3 (.slice B3 n3 d3) (zs.take k ++ [(o : Int)] ++ zs.drop k) ∧ OL H (i + 1) (zs.take k ++ [(o : Int)] ++ zs.drop k))) := Lib.hid fun hlo A2 c2 hi2 => by
            obtain ⟨ho, hl, hlc, hmx, hok⟩ := HO.out
            have hA := HINT.out
            obtain ⟨v1, w1, hrun1, hz1⟩ := (ZR.nil wr).app A9 k c9 (zs.take k) (by rw [List.length_take]; omega) (hA.take k) (by simp; omega)
            rw [List.nil_append] at hz1
            obtain ⟨B1, d1, e1, _⟩ := hz1.shape
            rw [show (zs.take k).length = k by rw [List.length_take]; omega] at e1
            subst e1
            have hb1 : Below w1.heap.size w1 (w1.alloc (.cells #[.int .i64 (o : Int)] 3)) := (Below.refl _ _).alloc (Nat.le_refl _) _
            obtain ⟨v2, w2, hrun2, hz2⟩ := (hz1.below hb1).app (some ⟨w1.heap.size, 0, none⟩) 1 1 [(o : Int)] rfl (Ints.one w1 (o : Int) (by have := oid_pos hok ho; omega)) (by rw [List.length_take]; omega)
            obtain ⟨B2, d2, e2, _⟩ := hz2.shape
            rw [show (zs.take k ++ [(o : Int)]).length = k + 1 by rw [List.length_append, List.length_take, List.length_singleton]; omega] at e2
            subst e2
            obtain ⟨v3, w3, hrun3, hz3⟩ := hz2.app A2 (l - k) c2 (zs.drop k) (by rw [List.length_drop]; omega) (hi2 _ (hA.below hz2.bel)) (by simp; omega)
            obtain ⟨B3, d3, e3, _⟩ := hz3.shape
            subst e3
            exact ⟨B1, d1, w1, hrun1, B2, d2, w2, hrun2, B3, _, d3, w3, hrun3, Lib.hid ⟨⟨ownsRow_base_a hz3.own hJ.out.1.bel.size, hJ.out.1.bel.trans (hz3.bel.mono hJ.out.1.bel.size)⟩, hJ.out.2.put hok ho (by omega) hU.out hlo⟩⟩
          cases k with
          | zero =>
            obtain ⟨B1, d1, w1, hrun1, B2, d2, w2, hrun2, B3, n3, d3, w3, hrun3, HF⟩ := hcont.out (fun z h _ => absurd h (Nat.lt_irrefl 0)) A9 c9 (fun W h => by rw [List.drop_zero]; exact h)
            rw [Nat.sub_zero] at hrun3
            rw [Nat.zero_add] at hrun2 hrun3
            have R1 := Lib.hid hrun1
            have R2 := Lib.hid hrun2
            have R3 := Lib.hid hrun3
            clear hcont hrun1 hrun2 hrun3 HINT hU hJ
            go_wp2_with (at_builtin; first | (refine wpList_app rfl _ _ 41 rfl _ _ _ _ rfl rfl R1.out ?_; clear R1) | (refine wpList_app rfl _ _ 41 rfl _ _ _ _ rfl rfl R2.out ?_; clear R2) | (refine wpList_app rfl _ _ 41 rfl _ _ _ _ rfl rfl R3.out ?_; clear R3))
            go_roundw
            case rel => exact ⟨i + 1, _, by omega, by go_num, HF⟩
            case measure => simp [intOf]; omega
          | succ m =>
            obtain ⟨y, hy⟩ : ∃ y, zs[m]? = some y := ⟨_, List.getElem?_eq_getElem (by have := HO.out.2.1; omega)⟩
            obtain ⟨b, off, hA9, hbl, hcell, hyr⟩ := HINT.out m y hy
            have hlm : m < l := by omega
            by_cases hgt : (o : Int) < y
            · have hd2 : decide (y > (o : Int)) = true := by simpa using hgt
              have HU2 : Hid (∀ j z, m ≤ j → zs[j]? = some z → (o : Int) < z) := Lib.hid fun j z h1 h2 => by
                by_cases e : j = m
                · subst e; rw [hy] at h2; cases h2; exact hgt
                · exact hU.out j z (by omega) h2
              subst hA9
              clear hcont hy hU HINT hJ
              go_wp2_with fail
              go_roundw
              case rel => exact ⟨m, by omega, by go_num, by trivial, HU2⟩
              case measure => simp [intOf]
            · have hd2 : decide (y > (o : Int)) = false := by simpa using hgt
              have hlo : ∀ z, 0 < m + 1 → zs[m + 1 - 1]? = some z → z ≤ (o : Int) := fun z _ h => by
                rw [Nat.add_sub_cancel, hy] at h
                cases h
                omega
              subst hA9
              by_cases hck : c9 = m + 1
              · obtain ⟨B1, d1, w1, hrun1, B2, d2, w2, hrun2, B3, n3, d3, w3, hrun3, HF⟩ := hcont.out hlo (some ⟨b, off, none⟩) (c9 - (m + 1)) (fun W h => by
                  rw [List.drop_eq_nil_of_le (by have := HO.out.2.1; omega)]
                  exact Ints.nil _ _)
                clear hlo hy hgt
                have R1 := Lib.hid hrun1
                have R2 := Lib.hid hrun2
                have R3 := Lib.hid hrun3
                clear hcont hrun1 hrun2 hrun3 HINT hU hJ
                go_wp2_with (at_builtin; first | (refine wpList_app rfl _ _ 41 rfl _ _ _ _ rfl rfl R1.out ?_; clear R1) | (refine wpList_app rfl _ _ 41 rfl _ _ _ _ rfl rfl R2.out ?_; clear R2) | (refine wpList_app rfl _ _ 41 rfl _ _ _ _ rfl rfl R3.out ?_; clear R3))
                go_roundw
                case rel => exact ⟨i + 1, _, by omega, by go_num, HF⟩
                case measure => simp [intOf]; omega
              · obtain ⟨B1, d1, w1, hrun1, B2, d2, w2, hrun2, B3, n3, d3, w3, hrun3, HF⟩ := hcont.out hlo (some ⟨b, off + (m + 1), none⟩) (c9 - (m + 1)) (fun W h => Ints.from (k := m + 1) h)
                clear hlo hy hgt
                have R1 := Lib.hid hrun1
                have R2 := Lib.hid hrun2
                have R3 := Lib.hid hrun3
                clear hcont hrun1 hrun2 hrun3 HINT hU hJ
                go_wp2_with (at_builtin; first | (refine wpList_app rfl _ _ 41 rfl _ _ _ _ rfl rfl R1.out ?_; clear R1) | (refine wpList_app rfl _ _ 41 rfl _ _ _ _ rfl rfl R2.out ?_; clear R2) | (refine wpList_app rfl _ _ 41 rfl _ _ _ _ rfl rfl R3.out ?_; clear R3))
                go_roundw
                case rel => exact ⟨i + 1, _, by omega, by go_num, HF⟩
                case measure => simp [intOf]; omega
    · obtain rfl : n = i := by omega
      have hd : decide ((n : Int) < (n : Int)) = false := by simp
      rw [HL.out] at hJ
      have e := hJ.out.2.all hok
      subst e
      obtain rfl : (oidsL H).length = l := hl
      have HA := Lib.hid (And.intro (hJ.out.1.ints rfl fun z hz => by have := hJ.out.2.rng hok z hz; omega) hJ.out.1.bel)
      clear hm hs hok hn h1 hJ
      go_wp2_with fail
      go_ret
      exact ⟨A9, c9, rfl, HA.out⟩
end
end Go.Proofs.Ytclkkfffecmjnaa
