/- record.Oids. -/
import Derived.Test.YtobfglnopihibaaM
namespace Go.Proofs.Ytobfglnopihibaa
open Go.RowKit Rcd

/-- Between the rounds. -/
structure OidI (w wr : World) (gm : Nat) (lv : Value) (zs : List Int) : Prop where
  ints : IntsZ wr lv zs
  map_ : ∃ m, m ≤ zs.length ∧ KMap wr gm m (fun z => decide (z ∈ zs))
  own : ∀ j, lv.ownBlock = some j → j ≠ gm ∧ w.heap.size ≤ j
  gm_ : w.heap.size ≤ gm
  bel : Below w.heap.size w wr
theorem OidI.frame {w wr w2 : World} {gm : Nat} {lv : Value} {zs : List Int} (h : OidI w wr gm lv zs) (hb : Below wr.heap.size wr w2) : OidI w w2 gm lv zs := by
  obtain ⟨m, hm, hk⟩ := h.map_
  exact ⟨h.ints.same fun k hk => hb.block k (h.ints.lt k hk), ⟨m, hm, hk.same (hb.block gm hk.lt)⟩, h.own, h.gm_, h.bel.trans (hb.mono h.bel.size)⟩

set_option maxRecDepth 20000 in
set_option maxHeartbeats 2000000 in
theorem oids_any (k : UInt8) (tag : Int) (A : Option Addr) (n c : Nat) (s : ByteArray) (ws : List Wd) (w : World) (hn : ws.length = n) (hA : Words w A ws) (hl : n ≤ 100000) :
    Calls Try.prog 21 #[.agg #[bv k, .int .i64 tag, .slice A n c, .string s]] w fun e w' => ∃ lv, e = .returned lv ∧ IntsZ w' lv (oids ws) ∧ (∀ j, lv.ownBlock = some j → w.heap.size ≤ j) ∧ Below w.heap.size w w' := by
  have HA := Lib.hid hA
  have HN := Lib.hid hn
  have hmm := @run_makeMap Try.prog
  have hb1 : Below w.heap.size w (w.alloc (.cells #[bv k, .int .i64 tag, .slice A n c, .string s] 24)) := (Below.refl _ _).alloc (Nat.le_refl _) _
  have HI : Hid (OidI w ((w.alloc (.cells #[bv k, .int .i64 tag, .slice A n c, .string s] 24)).alloc (.map #[] 0)) (w.heap.size + 1) (.slice none 0 0) []) := Lib.hid
    ⟨IntsZ.nil _, ⟨0, Nat.le_refl _, by have := KMap.made (w.alloc (.cells #[bv k, .int .i64 tag, .slice A n c, .string s] 24)); rw [World.size_alloc] at this; simpa using this⟩, fun j hj => (by cases hj), by omega, hb1.alloc (by rw [World.size_alloc]; omega) _⟩
  clear hA hn hb1
  go_enter Try.func21, Try.ntmps21
  go_wp2_with fail
  go_loopw [3, 6, 11] (fun lv xv iv wr => ∃ i : Nat, i ≤ n ∧ iv = .int .i64 (i : Int) ∧ Hid (OidI w wr (w.heap.size + 1) lv (oids (ws.take i)))) (fun _ _ iv _ => n - (intOf iv).toNat)
  case atStart => exact ⟨0, Nat.zero_le _, rfl, HI⟩
  case round =>
    clear HI
    obtain ⟨i, hi, rfl, hI⟩ := hrel
    by_cases hlt : i < n
    · have hd : decide ((i : Int) < (n : Int)) = true := by simpa using hlt
      obtain ⟨x, hx⟩ : ∃ x, ws[i]? = some x := ⟨_, List.getElem?_eq_getElem (by rw [HN.out]; exact hlt)⟩
      obtain ⟨b, off, rfl, hblt, c0, c1, hr⟩ := HA.out.below hI.out.bel i x hx
      obtain ⟨Al, cl, hlv, hcl, hclm⟩ := hI.out.ints.shape
      have hs := oids_succ hx
      have hlen : (oids (ws.take i)).length ≤ i := by have := oids_len (ws.take i); rw [List.length_take] at this; omega
      obtain ⟨zs, hzs⟩ : ∃ zs, oids (ws.take i) = zs := ⟨_, rfl⟩
      rw [hzs] at hI hs hlv hlen hcl
      have HS := Lib.hid hs
      obtain ⟨kx, nx⟩ := x
      dsimp only at c0 c1 hr
      obtain ⟨kn, hkn⟩ : ∃ kn, kx.toNat = kn := ⟨_, rfl⟩
      have hbv : bv kx = .int .u8 (kn : Int) := by rw [← hkn]; rfl
      rw [hbv] at c0
      obtain ⟨zl, hzl⟩ : ∃ zl, zs.length = zl := ⟨_, rfl⟩
      rw [hzl] at hlv hlen
      subst hlv
      have hbw : Below wr.heap.size wr (wr.alloc (.cells #[.int .u8 (kn : Int), .int .i64 nx] 44)) := (Below.refl _ _).alloc (Nat.le_refl _) _
      have hI2 := hI.out.frame hbw
      have HI2 := Lib.hid hI2
      obtain ⟨m, hm, hk⟩ := hI2.map_
      have hlk := hk.look nx (WalkArith.wf_i64 (by omega))
      by_cases hk2 : kn = 2
      · by_cases hmem : nx ∈ zs
        · rw [decide_eq_true hmem] at hlk
          have HR : Hid (oids (ws.take (i + 1)) = zs) := Lib.hid (by rw [HS.out]; exact if_neg (fun h => h.2 hmem))
          have d1 : ((kn : Int) == 2) = true := by simp; omega
          clear hI hI2 hk hx hs hbw hzs hzl hbv hkn hk2
          go_wp2_with fail
          go_roundw
          case rel => exact ⟨i + 1, by omega, by go_num, by rw [HR.out]; exact HI2⟩
          case measure => simp [intOf]; omega
        · rw [decide_eq_false hmem] at hlk
          have d1 : ((kn : Int) == 2) = true := by simp; omega
          have hkx : kx = 2 := UInt8.toNat_inj.1 (by rw [hkn, hk2]; rfl)
          have HR : Hid (oids (ws.take (i + 1)) = zs ++ [nx]) := Lib.hid (by rw [HS.out]; exact if_pos ⟨hkx, hmem⟩)
          obtain ⟨w2, hput, hM2, hO2⟩ := hk.put nx (WalkArith.wf_i64 (by omega)) (by omega)
          have hgml : w.heap.size + 1 < wr.heap.size := by obtain ⟨_, _, h⟩ := hI.out.map_; exact h.lt
          have hsz2 := hO2.size
          rw [World.size_alloc] at hsz2
          have c5 : w2.cell? ⟨wr.heap.size, 1, none⟩ = some (.int .i64 nx) :=
            (World.cell?_of_block (a := ⟨wr.heap.size, 1, none⟩) (hO2.block wr.heap.size (by rw [World.size_alloc]; omega) (fun e => by have e' : wr.heap.size = w.heap.size + 1 := e; omega))).trans ((Blk.new wr _ _).cell 1)
          have hb3 : Below w2.heap.size w2 (w2.alloc (.cells #[.int .i64 nx] 3)) := (Below.refl _ _).alloc (Nat.le_refl _) _
          have hi3 : IntsZ (w2.alloc (.cells #[.int .i64 nx] 3)) (.slice Al zl cl) zs := hI2.ints.same (fun j hj => by
            have h1 := hI2.ints.lt j hj
            have h2 := (hI2.own j hj).1
            rw [World.size_alloc] at h1
            exact (hb3.block j (by omega)).trans (hO2.block j (by rw [World.size_alloc]; omega) (fun e => h2 e)))
          obtain ⟨v', w5, hrun, hi5, hg5, ho5⟩ := hi3.push nx w2.heap.size ((Blk.new w2 _ _).cell 0) (by omega)
          obtain ⟨A5, c6, hv5, _, _⟩ := hi5.shape
          have hbel2 : Below w.heap.size w w2 := hI2.bel.trans (hO2.below hI2.bel.size (fun j e => by have e' : j = w.heap.size + 1 := e; omega))
          have hbel3 : Below w.heap.size w (w2.alloc (.cells #[.int .i64 nx] 3)) := hbel2.trans (hb3.mono hbel2.size)
          have hM3 : KMap w5 (w.heap.size + 1) (m + 1) (fun j => j == nx || decide (j ∈ zs)) := hM2.same ((hg5.block _ (by rw [World.size_alloc]; omega) (fun e => (hI2.own _ e.symm).1 rfl)).trans (hb3.block _ (by omega)))
          have hS : (fun j => j == nx || decide (j ∈ zs)) = fun z => decide (z ∈ zs ++ [nx]) := by
            funext z
            rw [Bool.eq_iff_iff]
            simp [or_comm]
          rw [hS] at hM3
          have HI5 : Hid (OidI w w5 (w.heap.size + 1) v' (zs ++ [nx])) := Lib.hid ⟨hi5, ⟨m + 1, by rw [List.length_append, List.length_singleton]; omega, hM3⟩, fun j hj => by
              rcases ho5 with ho | ho
              · rw [ho] at hj; exact hI2.own j hj
              · rw [ho] at hj
                have := Option.some.inj hj
                rw [World.size_alloc] at this
                have := hI2.bel.size
                rw [World.size_alloc] at this
                exact ⟨by omega, by omega⟩, by omega, hbel3.grown hg5 hbel3.size (fun j hj => (hI2.own j hj).2)⟩
          obtain ⟨nf, hnf⟩ : ∃ nf, (zs ++ [nx]).length = nf := ⟨_, rfl⟩
          rw [hnf] at hv5
          subst hv5
          have HRUN := Lib.hid hrun
          clear hI hI2 hk hx hs hbw hzs hzl hbv hkn hk2 hkx hM2 hO2 hb3 hi3 hi5 hg5 ho5 hbel2 hbel3 hM3 hS hnf hrun hsz2
          go_wp2_with (at_builtin; refine wpList_app rfl _ _ 40 rfl _ _ _ _ rfl rfl HRUN.out ?_; clear HRUN)
          go_roundw
          case rel => exact ⟨i + 1, by omega, by go_num, by rw [HR.out]; exact HI5⟩
          case measure => simp [intOf]; omega
      · have d1 : ((kn : Int) == 2) = false := by simp; omega
        have HR : Hid (oids (ws.take (i + 1)) = zs) := Lib.hid (by rw [HS.out]; exact if_neg (fun h => hk2 (by have h1 := h.1; dsimp only at h1; rw [← hkn, h1]; rfl)))
        clear hI hI2 hk hx hs hbw hzs hzl hbv hkn hk2
        go_wp2_with fail
        go_roundw
        case rel => exact ⟨i + 1, by omega, by go_num, by rw [HR.out]; exact HI2⟩
        case measure => simp [intOf]; omega
    · obtain rfl : n = i := by omega
      have hd : decide ((n : Int) < (n : Int)) = false := by simp
      have hI2 := hI.out
      rw [List.take_of_length_le (by rw [HN.out]; exact Nat.le_refl _)] at hI2
      have HI2 := Lib.hid hI2
      obtain ⟨Al, cl, hlv, hcl, hclm⟩ := hI2.ints.shape
      clear hI hI2
      go_wp2_with fail
      go_ret
      exact ⟨_, rfl, HI2.out.ints, fun j hj => (HI2.out.own j hj).2, HI2.out.bel⟩
end Go.Proofs.Ytobfglnopihibaa
