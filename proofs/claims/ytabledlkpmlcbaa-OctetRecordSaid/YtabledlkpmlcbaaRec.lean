/- OctetRecord. -/
import Derived.Test.YtabledlkpmlcbaaQ
import Derived.LoopTactic
import Derived.Deep.CutRange
import Derived.Deep.RegionWith
import Derived.Deep.QuietTactic
import Derived.BigQuiet
namespace Go.Proofs.Ytabledlkpmlcbaa
open Go.RowKit

theorem own_new (w : World) (base : Nat) (h : base ≤ w.heap.size) : (w.alloc (.cells #[] 5)).ownsRow base 5 1 (.slice (some ⟨w.heap.size, 0, none⟩) 0 0) 0 (([] : List UInt8).map bv) :=
  World.ownsRow_made w #[] 0 h (Nat.zero_le _) rfl
theorem own_shape {w : World} {base : Nat} {e : TypeId} {v : Value} {n : Nat} {xs : List Value} (h : w.ownsRow base e 1 v n xs) : ∃ A c, v = .slice A n c := by
  rcases h.2 with ⟨rfl, rfl⟩ | ⟨g, cap, cur, rfl, _⟩
  · exact ⟨none, 0, rfl⟩
  · exact ⟨_, cap, rfl⟩
/-- A slice of the call's own: nil, or from its row's first cell on. -/
def Shape (A : Option Addr) (L c : Nat) : Prop := (∃ g, A = some ⟨g, 0, none⟩ ∧ L ≤ c) ∨ (A = none ∧ L = 0 ∧ c = 0)
theorem own_shape2 {w : World} {base : Nat} {e : TypeId} {A : Option Addr} {c n : Nat} {xs : List Value} (h : w.ownsRow base e 1 (.slice A n c) n xs) : Shape A n c := by
  rcases h.2 with ⟨e1, e2⟩ | ⟨g, cap, cur, e1, _, _, hn, _⟩
  · simp at e1
    exact .inr ⟨e1.1, e2, e1.2.2⟩
  · simp at e1
    exact .inl ⟨g, e1.1, by omega⟩
theorem Bytes.front {w : World} {A : Option Addr} {a b : List UInt8} (h : Bytes w A (a ++ b)) : Bytes w A a := fun k c hk => by
  refine h k c ?_
  have hlt : k < a.length := (List.getElem?_eq_some_iff.1 hk).1
  rw [List.getElem?_append_left hlt]; exact hk
theorem Bytes.drewN {w : World} {A : Option Addr} {bs : List UInt8} (h : Bytes w A bs) (q : Nat) : Bytes (w.drewN q) A bs := fun k c hk => h k c hk
def scells : Array Value := #[.int .i64 1, .int .i64 2, .int .i64 4, .int .i64 8]
theorem scells_get (s : Nat) : scells[s % 4]? = some (.int .i64 (sz s : Int)) := by
  unfold sz
  rcases (by omega : s % 4 = 0 ∨ s % 4 = 1 ∨ s % 4 = 2 ∨ s % 4 = 3) with h | h | h | h <;> rw [h] <;> rfl
theorem Bytes.drew {w : World} {A : Option Addr} {bs : List UInt8} (h : Bytes w A bs) : Bytes w.drew A bs := h.below (Below.refl _ w).drew

theorem raw_mod4 (s q : Nat) (hs : s < 256) (h : s % 4 = q) : (IntKind.i64.wrap (s : Int)).tmod 4 = (q : Int) := by
  have hw : IntKind.i64.wrap (s : Int) = (s : Int) := by rw [IntKind.wrap_i64]; omega
  rw [hw, Int.tmod_eq_emod_of_nonneg (by omega)]
  omega

theorem mask_u64 (x g : Nat) (hx : x < 18446744073709551616) (hg : g < 8) : bits .and .u64 (x : Int) (IntKind.u64.wrap (IntKind.u64.wrap (2 ^ (8 * g)) - 1)) = (x : Int) % 2 ^ (8 * g) := by
  have hP : (2 : Nat) ^ (8 * g) ≤ 2 ^ 56 := Nat.pow_le_pow_right (by decide) (by omega)
  have hP0 : 0 < (2 : Nat) ^ (8 * g) := Nat.two_pow_pos _
  have e : (2 : Int) ^ (8 * g) = ((2 ^ (8 * g) : Nat) : Int) := by push_cast; rfl
  have hand : x &&& (2 ^ (8 * g) - 1) = x % 2 ^ (8 * g) := Nat.and_two_pow_sub_one_eq_mod x (8 * g)
  rw [e]
  generalize (2 ^ (8 * g) : Nat) = P at *
  have hw1 : IntKind.u64.wrap (P : Int) = (P : Int) := by simp [IntKind.wrap, IntKind.bits, IntKind.signed]; omega
  have hw2 : IntKind.u64.wrap ((P : Int) - 1) = ((P - 1 : Nat) : Int) := by simp [IntKind.wrap, IntKind.bits, IntKind.signed]; omega
  rw [hw1, hw2, u64_and_nat x (P - 1) hx (by omega), hand]
  push_cast
  rfl

set_option maxRecDepth 20000 in
set_option maxHeartbeats 1000000 in
theorem record_any (A F : Option Addr) (n cap m fcap z : Nat) (ahead : List UInt8) (fs : List (Nat × Nat)) (w : World) (hn : ahead.length = n) (hm : fs.length = m) (hA : Bytes w A ahead) (hF : Flds w F fs) (_hml : n ≤ maxLen) (_hfl : m ≤ fcap) (_hfc : fcap ≤ maxLen) (hz : z < 65536) :
    Calls Try.prog 4 #[.slice A n cap, .slice F m fcap, .int .u16 z] w fun e W' => e = .returned (.bool true) ∧ Below w.heap.size w W' := by
  have hWK := Lib.hid (works_any w)
  have HA := Lib.hid hA
  have HF := Lib.hid hF
  have HN := Lib.hid hn
  have HM := Lib.hid hm
  obtain ⟨B, hB⟩ : ∃ B, w.heap.size = B := ⟨_, rfl⟩
  have HB := Lib.hid hB
  by_cases hb1 : 1000 < n
  · clear hA hF hn hm hB
    go_enter Try.func4, Try.ntmps4
    go_wp2_with fail
    refine hWK.out.mono ?_
    rintro e w1 ⟨rfl, hb⟩
    have HB := Lib.hid hb
    clear hb
    go_wp2
    go_ret
    exact ⟨rfl, HB.out⟩
  by_cases hb2 : 100 < m
  · clear hA hF hn hm hB
    have hb1' : ¬ (1000 < (n : Int)) := by omega
    have hb2' : 100 < (m : Int) := by omega
    go_enter Try.func4, Try.ntmps4
    go_wp2_with fail
    refine hWK.out.mono ?_
    rintro e w1 ⟨rfl, hb⟩
    have HB := Lib.hid hb
    clear hb
    go_wp2
    go_ret
    exact ⟨rfl, HB.out⟩
  have hb1' : ¬ (1000 < (n : Int)) := by omega
  have hb2' : ¬ (100 < (m : Int)) := by omega
  obtain ⟨ws, hws⟩ : ∃ ws, w.alloc (.cells scells 3) = ws := ⟨_, rfl⟩
  have hbs : Below B w ws := by rw [← hws, ← hB]; exact (Below.refl _ w).alloc (Nat.le_refl _) _
  have hSb : Blk ws B 3 scells := by rw [← hws, ← hB]; exact Blk.new w _ _
  have hsize : ws.heap.size = B + 1 := by rw [← hws, World.size_alloc, hB]
  obtain ⟨wa, hwa⟩ : ∃ wa, ws.alloc (.cells #[] 5) = wa := ⟨_, rfl⟩
  have hown0 := own_new ws (B + 1) (by omega)
  rw [hwa, hsize] at hown0
  have hba : Below B w wa := by rw [← hwa]; exact hbs.alloc (by omega) _
  have hsa : wa.heap.size = B + 2 := by rw [← hwa, World.size_alloc, hsize]
  obtain ⟨v1, w1, hrun1, hown1, hgr1⟩ := run_app8 wa (B + 1) _ 0 [] hown0 A n cap ahead hn (hA.below (by rw [hB]; exact hba)) (by omega) (by omega)
  rw [List.nil_append, Nat.zero_add] at hown1
  have hbw1 : Below B w w1 := hba.grown hgr1 (by omega) (fun k e => by simp [Value.ownBlock] at e; omega)
  have hSb1 : Blk w1 B 3 scells := by
    have h1 : Blk wa B 3 scells := by rw [← hwa]; exact hSb.alloc _
    exact h1.grown hgr1 (by simp [Value.ownBlock])
  obtain ⟨A1, c1, rfl⟩ := own_shape hown1
  have hsz1 := hgr1.size
  have HRUN := Lib.hid hrun1
  have HY := Lib.hid (Bytes.of_own hown1)
  have HBW := Lib.hid hbw1
  have HSH := Lib.hid (own_shape2 hown1)
  have HS := Lib.hid hSb1
  unfold scells at hws
  clear hWK hA hF hn hm hbs hSb hown0 hba hrun1 hown1 hgr1 hbw1 hSb1
  go_enter Try.func4, Try.ntmps4
  go_wp2_with (at_builtin; refine wpList_app rfl _ _ 22 rfl _ _ _ _ rfl rfl HRUN.out ?_; clear HRUN)
  clear hws hsize hwa hsa hsz1
  have hbody := body_length fs
  rw [HM.out] at hbody
  go_loopw [8, 9] (fun v i wr => ∃ k : Nat, k ≤ m ∧ i = .int .i64 k ∧ ∃ A' c' L, v = .slice A' L c' ∧ (ahead ++ body (fs.take k)).length = L ∧ Shape A' L c' ∧ Bytes wr A' (ahead ++ body (fs.take k)) ∧ Blk wr B 3 scells ∧ Below B w wr) (fun _ i _ => m - (intOf i).toNat)
  case atStart =>
    refine ⟨0, Nat.zero_le _, rfl, A1, c1, n, rfl, ?_, HSH.out, ?_, HS.out, HBW.out⟩
    · simp [body]; exact HN.out
    · simpa [body] using HY.out
  case round =>
    obtain ⟨k, hk, rfl, A', c', L, rfl, hL, hsh, hy, hsb, hbw⟩ := hrel
    by_cases hlt : k < m
    · obtain ⟨f, hf⟩ : ∃ f, fs[k]? = some f := ⟨_, List.getElem?_eq_getElem (by rw [HM.out]; exact hlt)⟩
      have hbwd : Below w.heap.size w wr.drew := by rw [HB.out]; exact hbw.drew
      obtain ⟨b, off, rfl, hblt, hcx, hcs, hx, hs⟩ := (HF.out.below hbwd) k f hf
      obtain ⟨x, s⟩ := f
      simp only at hcx hcs hx hs
      obtain ⟨q, hq⟩ : ∃ q, s % 4 = q := ⟨_, rfl⟩
      have hq4 : q < 4 := by omega
      have hsm := raw_mod4 s q hs hq
      have hcz : wr.drew.cell? ⟨B, q, none⟩ = some (.int .i64 (sz s : Int)) := by rw [← hq]; exact (hsb.drew.cell (s % 4)).trans (scells_get s)
      have hbt := body_take_succ fs k _ hf
      have hle := body_take_le fs k
      have hLb : L ≤ 1800 := by
        rw [← hL, List.length_append, HN.out]; omega
      have hput := put_okL A' L c' (sz s) x _ wr.drew hL (sz_size s) (by omega) hy.drew
      have hq0 : (q : Int) < 4 := by omega
      have hkm : (k : Int) < (m : Int) := by omega
      have HPUT := Lib.hid hput
      have HBT := Lib.hid hbt
      have HSB := Lib.hid hsb
      have HBWD := Lib.hid hbwd
      have HLL := Lib.hid hL
      have HB0 := Lib.hid hbw.size
      clear hsh hf hbwd hq hbt hle hput hsb hbw hy hL
      go_wp2
      go_region_with (go_at_call 12; refine Calls.mono HPUT.out ?_; rintro e w2 ⟨rfl, hR, hb2⟩)
      all_goals (
        have hsz2 := hb2.size
        have hrel : ∃ k' : Nat, k' ≤ m ∧ (Value.int .i64 ((k : Int) + 1)) = .int .i64 k' ∧ ∃ A' c' L', Value.slice (some ⟨wr.heap.size + 2, 0, none⟩) (L + sz s) (L + sz s) = .slice A' L' c' ∧ (ahead ++ body (fs.take k')).length = L' ∧ Shape A' L' c' ∧ Bytes w2 A' (ahead ++ body (fs.take k')) ∧ Blk w2 B 3 scells ∧ Below B w w2 := by
          refine ⟨k + 1, by omega, by go_num, _, _, _, rfl, ?_, .inl ⟨_, rfl, Nat.le_refl _⟩, ?_, ?_, ?_⟩
          · rw [HBT.out, ← List.append_assoc, List.length_append, HLL.out, lePut_length]
          · rw [HBT.out, ← List.append_assoc]; exact Bytes.row hR
          · exact HSB.out.drew.below hb2 HSB.out.lt
          · have h1 := HBWD.out
            rw [HB.out] at h1
            exact h1.trans (hb2.mono (by have := HB0.out; have := HB.out; show B ≤ wr.heap.size; omega))
        have HREL := Lib.hid hrel
        clear hrel hR hb2
        go_wp2
        go_roundw
        case rel => exact HREL.out
        case measure => simp [intOf]; omega)
    · obtain rfl : m = k := by omega
      have htk : fs.take fs.length = fs := List.take_length
      rw [HM.out] at htk
      rw [htk] at hL hy
      have hLb : L ≤ 1800 := by
        rw [← hL, List.length_append, HN.out]; omega
      have HSB := Lib.hid hsb
      have HBW1 := Lib.hid hbw
      have HLL := Lib.hid hL
      have HYY := Lib.hid hy
      have HSHL := Lib.hid hsh
      clear htk hL hy hsb hbw hsh HS HBW HY
      by_cases hfit : L ≤ z
      · have hfill := fill_okL A' L c' z _ wr HLL.out hfit (by omega) HYY.out
        have hle1 : (L : Int) ≤ (z : Int) := by omega
        have HFILL := Lib.hid hfill
        obtain ⟨wo, rfl⟩ : ∃ wo : World, wo = wr := ⟨_, rfl⟩
        clear hfill
        go_wp2_with fail
        refine HFILL.out.mono ?_
        rintro e w3 ⟨rfl, hR3, hb3⟩
        clear HFILL
        obtain ⟨rest, hrest⟩ : ∃ rest : List UInt8, List.replicate (z - L) 0 = rest := ⟨_, rfl⟩
        have HREST : Hid (rest = List.replicate (z - L) 0) := Lib.hid hrest.symm
        have hfl2 : filled (ahead ++ body fs) z = ahead ++ body fs ++ rest := by unfold filled; rw [HLL.out, hrest]
        rw [hfl2] at hR3
        have HY2 : Hid (Bytes w3 (some ⟨wo.heap.size, 0, none⟩) (ahead ++ body fs ++ rest)) := Lib.hid (Bytes.row hR3)
        have HL2 : Hid ((ahead ++ body fs ++ rest).length = z) := Lib.hid (by rw [List.length_append, HLL.out, ← hrest, List.length_replicate]; omega)
        have HSB2 := Lib.hid (HSB.out.below hb3 HSB.out.lt)
        have HBW2 := Lib.hid (HBW1.out.trans (hb3.mono (by have := HBW1.out.size; have := HB.out; omega)))
        clear hrest hfl2 hR3 hb3

        have hLn : n + (body fs).length = L := by have h := HLL.out; rw [List.length_append, HN.out] at h; exact h
        have hmaxL : z ≤ 65536 := by omega
        go_wp2
        go_loopw [13, 14] (fun a i wq => ∃ k : Nat, k ≤ m ∧ i = .int .i64 k ∧ a = .int .i64 ((n + (body (fs.take k)).length : Nat) : Int) ∧ Bytes wq (some ⟨wo.heap.size, 0, none⟩) (ahead ++ body fs ++ rest) ∧ Blk wq B 3 scells ∧ Below B w wq) (fun _ i _ => m - (intOf i).toNat)
        case atStart => exact ⟨0, Nat.zero_le _, rfl, by simp [body], HY2.out, HSB2.out, HBW2.out⟩
        case round =>
          obtain ⟨k, hk, rfl, rfl, hy, hsb, hbw⟩ := hrel
          by_cases hlt : k < m
          · obtain ⟨f, hf⟩ : ∃ f, fs[k]? = some f := ⟨_, List.getElem?_eq_getElem (by rw [HM.out]; exact hlt)⟩
            have hbwd : Below w.heap.size w wr := by rw [HB.out]; exact hbw
            obtain ⟨b, off, rfl, hblt, hcx, hcs, hx, hs⟩ := (HF.out.below hbwd) k f hf
            obtain ⟨x, s⟩ := f
            simp only at hcx hcs hx hs
            obtain ⟨q, hq⟩ : ∃ q, s % 4 = q := ⟨_, rfl⟩
            have hqi : (s : Int) % 4 = (q : Int) := by omega
            have hq4 : q < 4 := by omega
            have hcz : wr.cell? ⟨B, q, none⟩ = some (.int .i64 (sz s : Int)) := by rw [← hq]; exact (hsb.cell (s % 4)).trans (scells_get s)
            have hfa := field_at ahead rest fs k _ hf
            simp only at hfa
            have hbt := body_take_succ fs k _ hf
            simp only at hbt
            obtain ⟨p, hp⟩ : ∃ p, n + (body (fs.take k)).length = p := ⟨_, rfl⟩
            have hp2 : n + (body (fs.take (k + 1))).length = p + sz s := by rw [hbt, List.length_append, lePut_length]; omega
            rw [HN.out, hp] at hfa
            rw [HLL.out] at hfa
            have hfa2 := hfa.2
            have hget := get_okL (some ⟨wo.heap.size, 0, none⟩) z z p (sz s) _ wr HL2.out (sz_size s) (by omega) (by unfold maxLen; omega) hy
            rw [hfa.1, want_eq x s hx] at hget
            obtain ⟨g, hg⟩ : ∃ g, sz s = g := ⟨_, rfl⟩
            have hg1 := sz_le s
            rw [hg] at hcz hget hp2 hg1 hfa2
            rw [hp]
            have HGET := Lib.hid hget
            have HP2 := Lib.hid hp2
            have HYK := Lib.hid hy
            have HSK := Lib.hid hsb
            have HBK := Lib.hid hbw
            have hq0 : (q : Int) < 4 := by omega
            have hkm : (k : Int) < (m : Int) := by omega
            have hpg : p + g ≤ 65536 := by omega
            clear hf hbwd hq hfa hfa2 hbt hp hp2 hget hg hy hsb hbw
            go_wp2_with fail
            refine HGET.out.mono ?_
            rintro e w2 ⟨rfl, hb2⟩
            clear HGET
            have hcx2 : w2.cell? ⟨b, off + k * 2, none⟩ = some (.int .u64 (x : Int)) := (hb2.cell (p := ⟨b, off + k * 2, none⟩) hblt).trans hcx
            have hy2 := HYK.out.below hb2
            have hsb2 := HSK.out.below hb2 HSK.out.lt
            have hb3 : Below B w w2 := HBK.out.trans (hb2.mono (by have := HBK.out.size; have := HB.out; omega))
            have HY3 := Lib.hid hy2
            have HS3 := Lib.hid hsb2
            have HB3 := Lib.hid hb3
            clear hcx hcs hcz hb2 hy2 hsb2 hb3 HYK HSK HBK
            by_cases hg8 : g < 8
            · rw [if_pos hg8]
              have hg8i : (g : Int) < 8 := by omega
              have hmask := mask_u64 x g hx hg8
              go_wp2
              go_roundw
              case rel => exact ⟨k + 1, by omega, by go_num, by rw [HP2.out]; go_num, HY3.out, HS3.out, HB3.out⟩
              case measure => simp [intOf]; omega
            · rw [if_neg hg8]
              have hg8i : ¬ ((g : Int) < 8) := by omega
              go_wp2
              go_roundw
              case rel => exact ⟨k + 1, by omega, by go_num, by rw [HP2.out]; go_num, HY3.out, HS3.out, HB3.out⟩
              case measure => simp [intOf]; omega
          · obtain rfl : m = k := by omega
            have htk : fs.take fs.length = fs := List.take_length
            rw [HM.out] at htk
            rw [htk, hLn]
            have hst1 : ∀ q, (convert 22 9 (.slice (some ⟨wo.heap.size, 0, none⟩) n z)).run Try.prog (wr.drewN q) = .ok (.string (str ahead)) (wr.drewN q) := fun q =>
              run_str8L (wr.drewN q) (some ⟨wo.heap.size, 0, none⟩) n z ahead HN.out (Bytes.drewN (Bytes.front (Bytes.front hy)) q)
            have hbwd : Below w.heap.size w wr := by rw [HB.out]; exact hbw
            have hst2 : ∀ q, (convert 22 9 (.slice A n cap)).run Try.prog (wr.drewN q) = .ok (.string (str ahead)) (wr.drewN q) := fun q =>
              run_str8L (wr.drewN q) A n cap ahead HN.out (Bytes.drewN (HA.out.below hbwd) q)
            have hncap : n ≤ z := by omega
            have hd1 : decide ((z : Int) < (L : Int)) = false := by simp; try omega
            have HYE := Lib.hid hy
            have HBE := Lib.hid hbw
            generalize str ahead = S at hst1 hst2
            clear htk hbwd hy hsb hbw
            go_wp2
            go_quiet (fail)
            go_wp2
            go_loop [19] (fun i => ∃ k : Nat, L ≤ k ∧ k ≤ z ∧ i = .int .i64 k) (fun i => z - (intOf i).toNat)
            case atStart => exact ⟨L, Nat.le_refl _, by omega, rfl⟩
            case round =>
              obtain ⟨k, hkL, hk2, rfl⟩ := hrel
              by_cases hlt3 : k < z
              · obtain ⟨b2, off2, hb2e, _, hc2⟩ := HYE.out.at_ (k := k) (by rw [HL2.out]; exact hlt3)
                have hz0 : (ahead ++ body fs ++ rest)[k]? = some 0 := by
                  rw [List.getElem?_append_right (by rw [HLL.out]; exact hkL), HLL.out, HREST.out, List.getElem?_replicate, if_pos (by omega)]
                have hc3 := hc2 k 0 hz0
                cases hb2e
                rw [Nat.zero_add] at hc3
                have hc4 : wr.cell? ⟨wo.heap.size, k, none⟩ = some (.int .u8 0) := hc3
                have hk2i : (k : Int) < (z : Int) := by omega
                clear hc2 hz0 hc3
                go_wp2
                go_round
                case rel => exact ⟨k + 1, by omega, by omega, by go_num⟩
                case measure => simp [intOf]; omega
              · have hk2i : ¬ ((k : Int) < (z : Int)) := by omega
                go_wp2_with fail
                refine (works_any _).mono ?_
                rintro e w5 ⟨rfl, hb5⟩
                have hb6 : Below B w w5 := (below_drewN HBE.out _).trans (hb5.mono (by have := HBE.out.size; have := HB.out; show B ≤ wr.heap.size; omega))
                have HB6 := Lib.hid hb6
                clear hb5 hb6
                go_wp2
                go_ret
                exact ⟨rfl, by rw [HB.out]; exact HB6.out⟩

      · have hfill := fill_no A' L c' (z : Int) wr (.inl (by omega))
        have hle1 : ¬ ((L : Int) ≤ (z : Int)) := by omega
        have HFILL := Lib.hid hfill
        clear hfill
        obtain ⟨gA, hgA, hcA⟩ : ∃ g, A' = some ⟨g, 0, none⟩ ∧ L ≤ c' := by
          rcases HSHL.out with h | ⟨_, h, _⟩
          · exact h
          · omega
        subst hgA
        go_wp2_with fail
        refine HFILL.out.mono ?_
        rintro e w' ⟨rfl, rfl⟩
        clear HFILL
        obtain ⟨rest, hrest⟩ : ∃ rest : List UInt8, [] = rest := ⟨_, rfl⟩
        have HREST : Hid (rest = List.replicate (L - L) 0) := Lib.hid (by rw [← hrest]; simp)
        have HY2 : Hid (Bytes wr (some ⟨gA, 0, none⟩) (ahead ++ body fs ++ rest)) := Lib.hid (by rw [← hrest, List.append_nil]; exact HYY.out)
        have HL2 : Hid ((ahead ++ body fs ++ rest).length = L) := Lib.hid (by rw [← hrest, List.append_nil]; exact HLL.out)
        have HSB2 := HSB
        have HBW2 := HBW1
        clear hrest

        have hLn : n + (body fs).length = L := by have h := HLL.out; rw [List.length_append, HN.out] at h; exact h
        have hmaxL : L ≤ 65536 := by omega
        go_wp2
        go_loopw [13, 14] (fun a i wq => ∃ k : Nat, k ≤ m ∧ i = .int .i64 k ∧ a = .int .i64 ((n + (body (fs.take k)).length : Nat) : Int) ∧ Bytes wq (some ⟨gA, 0, none⟩) (ahead ++ body fs ++ rest) ∧ Blk wq B 3 scells ∧ Below B w wq) (fun _ i _ => m - (intOf i).toNat)
        case atStart => exact ⟨0, Nat.zero_le _, rfl, by simp [body], HY2.out, HSB2.out, HBW2.out⟩
        case round =>
          obtain ⟨k, hk, rfl, rfl, hy, hsb, hbw⟩ := hrel
          by_cases hlt : k < m
          · obtain ⟨f, hf⟩ : ∃ f, fs[k]? = some f := ⟨_, List.getElem?_eq_getElem (by rw [HM.out]; exact hlt)⟩
            have hbwd : Below w.heap.size w wr := by rw [HB.out]; exact hbw
            obtain ⟨b, off, rfl, hblt, hcx, hcs, hx, hs⟩ := (HF.out.below hbwd) k f hf
            obtain ⟨x, s⟩ := f
            simp only at hcx hcs hx hs
            obtain ⟨q, hq⟩ : ∃ q, s % 4 = q := ⟨_, rfl⟩
            have hqi : (s : Int) % 4 = (q : Int) := by omega
            have hq4 : q < 4 := by omega
            have hcz : wr.cell? ⟨B, q, none⟩ = some (.int .i64 (sz s : Int)) := by rw [← hq]; exact (hsb.cell (s % 4)).trans (scells_get s)
            have hfa := field_at ahead rest fs k _ hf
            simp only at hfa
            have hbt := body_take_succ fs k _ hf
            simp only at hbt
            obtain ⟨p, hp⟩ : ∃ p, n + (body (fs.take k)).length = p := ⟨_, rfl⟩
            have hp2 : n + (body (fs.take (k + 1))).length = p + sz s := by rw [hbt, List.length_append, lePut_length]; omega
            rw [HN.out, hp] at hfa
            rw [HLL.out] at hfa
            have hfa2 := hfa.2
            have hget := get_okL (some ⟨gA, 0, none⟩) L c' p (sz s) _ wr HL2.out (sz_size s) (by omega) (by unfold maxLen; omega) hy
            rw [hfa.1, want_eq x s hx] at hget
            obtain ⟨g, hg⟩ : ∃ g, sz s = g := ⟨_, rfl⟩
            have hg1 := sz_le s
            rw [hg] at hcz hget hp2 hg1 hfa2
            rw [hp]
            have HGET := Lib.hid hget
            have HP2 := Lib.hid hp2
            have HYK := Lib.hid hy
            have HSK := Lib.hid hsb
            have HBK := Lib.hid hbw
            have hq0 : (q : Int) < 4 := by omega
            have hkm : (k : Int) < (m : Int) := by omega
            have hpg : p + g ≤ 65536 := by omega
            clear hf hbwd hq hfa hfa2 hbt hp hp2 hget hg hy hsb hbw
            go_wp2_with fail
            refine HGET.out.mono ?_
            rintro e w2 ⟨rfl, hb2⟩
            clear HGET
            have hcx2 : w2.cell? ⟨b, off + k * 2, none⟩ = some (.int .u64 (x : Int)) := (hb2.cell (p := ⟨b, off + k * 2, none⟩) hblt).trans hcx
            have hy2 := HYK.out.below hb2
            have hsb2 := HSK.out.below hb2 HSK.out.lt
            have hb3 : Below B w w2 := HBK.out.trans (hb2.mono (by have := HBK.out.size; have := HB.out; omega))
            have HY3 := Lib.hid hy2
            have HS3 := Lib.hid hsb2
            have HB3 := Lib.hid hb3
            clear hcx hcs hcz hb2 hy2 hsb2 hb3 HYK HSK HBK
            by_cases hg8 : g < 8
            · rw [if_pos hg8]
              have hg8i : (g : Int) < 8 := by omega
              have hmask := mask_u64 x g hx hg8
              go_wp2
              go_roundw
              case rel => exact ⟨k + 1, by omega, by go_num, by rw [HP2.out]; go_num, HY3.out, HS3.out, HB3.out⟩
              case measure => simp [intOf]; omega
            · rw [if_neg hg8]
              have hg8i : ¬ ((g : Int) < 8) := by omega
              go_wp2
              go_roundw
              case rel => exact ⟨k + 1, by omega, by go_num, by rw [HP2.out]; go_num, HY3.out, HS3.out, HB3.out⟩
              case measure => simp [intOf]; omega
          · obtain rfl : m = k := by omega
            have htk : fs.take fs.length = fs := List.take_length
            rw [HM.out] at htk
            rw [htk, hLn]
            have hst1 : ∀ q, (convert 22 9 (.slice (some ⟨gA, 0, none⟩) n c')).run Try.prog (wr.drewN q) = .ok (.string (str ahead)) (wr.drewN q) := fun q =>
              run_str8L (wr.drewN q) (some ⟨gA, 0, none⟩) n c' ahead HN.out (Bytes.drewN (Bytes.front (Bytes.front hy)) q)
            have hbwd : Below w.heap.size w wr := by rw [HB.out]; exact hbw
            have hst2 : ∀ q, (convert 22 9 (.slice A n cap)).run Try.prog (wr.drewN q) = .ok (.string (str ahead)) (wr.drewN q) := fun q =>
              run_str8L (wr.drewN q) A n cap ahead HN.out (Bytes.drewN (HA.out.below hbwd) q)
            have hncap : n ≤ c' := by omega
            have hd1 : decide ((L : Int) < (L : Int)) = false := by simp; try omega
            have HYE := Lib.hid hy
            have HBE := Lib.hid hbw
            generalize str ahead = S at hst1 hst2
            clear htk hbwd hy hsb hbw
            go_wp2
            go_quiet (fail)
            go_wp2
            go_loop [19] (fun i => ∃ k : Nat, L ≤ k ∧ k ≤ L ∧ i = .int .i64 k) (fun i => L - (intOf i).toNat)
            case atStart => exact ⟨L, Nat.le_refl _, by omega, rfl⟩
            case round =>
              obtain ⟨k, hkL, hk2, rfl⟩ := hrel
              by_cases hlt3 : k < L
              · obtain ⟨b2, off2, hb2e, _, hc2⟩ := HYE.out.at_ (k := k) (by rw [HL2.out]; exact hlt3)
                have hz0 : (ahead ++ body fs ++ rest)[k]? = some 0 := by
                  rw [List.getElem?_append_right (by rw [HLL.out]; exact hkL), HLL.out, HREST.out, List.getElem?_replicate, if_pos (by omega)]
                have hc3 := hc2 k 0 hz0
                cases hb2e
                rw [Nat.zero_add] at hc3
                have hc4 : wr.cell? ⟨gA, k, none⟩ = some (.int .u8 0) := hc3
                have hk2i : (k : Int) < (L : Int) := by omega
                clear hc2 hz0 hc3
                go_wp2
                go_round
                case rel => exact ⟨k + 1, by omega, by omega, by go_num⟩
                case measure => simp [intOf]; omega
              · have hk2i : ¬ ((k : Int) < (L : Int)) := by omega
                go_wp2_with fail
                refine (works_any _).mono ?_
                rintro e w5 ⟨rfl, hb5⟩
                have hb6 : Below B w w5 := (below_drewN HBE.out _).trans (hb5.mono (by have := HBE.out.size; have := HB.out; show B ≤ wr.heap.size; omega))
                have HB6 := Lib.hid hb6
                clear hb5 hb6
                go_wp2
                go_ret
                exact ⟨rfl, by rw [HB.out]; exact HB6.out⟩

end Go.Proofs.Ytabledlkpmlcbaa
