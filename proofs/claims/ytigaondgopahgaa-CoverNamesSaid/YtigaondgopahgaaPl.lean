/- cover: the names of variables made plain. -/
import Derived.Test.YtigaondgopahgaaOi
import Derived.Test.YtigaondgopahgaaMn
namespace Go.Proofs.Ytigaondgopahgaa
open Go.RowKit Ty
set_option linter.unusedVariables false
set_option linter.unusedSimpArgs false
section
variable {F : Nat → Prop} {B : Nat} {w w' : World} {v : Value} {es : List Te}
/-- More of them. -/
theorem PtO.appW (h : PtO F B w v es) (hB : B ≤ w.heap.size) (fs : List Te) (a : Addr) (m c : Nat) (hm : fs.length = m) (hb : ∀ (j : Nat) (u : Value), (flatE fs)[j]? = some u → w.cell? (a.add j) = some u) (hin : ∀ e ∈ fs, e.in_ (fun k => F k ∧ v.ownBlock ≠ some k) w) (hl : (es.length + m) * 56 ≤ 140737488351232) :
    ∃ v' w', (Builtin.append_ #[22, 22] 22 #[v, .slice (some a) m c]).run Try.prog w = .ok v' w' ∧ PtO F B w' v' (es ++ fs) ∧ w.grownBy w' v.ownBlock := by
  obtain ⟨i0, hi, hz0, hz1, hz2⟩ := info_parts infoPat
  obtain ⟨v', w', hrun, h2, h3, _, h5⟩ := run_append_own_at (P := Try.prog) w B 22 22 40 i0 (.agg #[.int .u8 0, .string ⟨#[]⟩, .int .i64 0, .slice none 0 0]) 4 56 Try.underlying22 hi hz0 hz1 hz2 rfl (by decide) v es.length _ h.own a m c (flatE fs) (by rw [flatE_len, hm]) hb
    (flatE_one fs) (by unfold maxLen; omega) (by omega) hB
  have ho : Off (fun k => v.ownBlock = some k) w w' := Off.of_grown h3
  refine ⟨v', w', hrun, ⟨by rw [List.length_append, hm, flatE_app]; exact h2, fun x hx => ?_⟩, h3⟩
  have hmv : ∀ {e : Te}, e.in_ (fun k => F k ∧ v.ownBlock ≠ some k) w → e.in_ (fun k => F k ∧ v'.ownBlock ≠ some k) w' := fun hA => (hA.bnd.off ho fun k hk hg => hk.1.2 hg).mono fun k hk => ⟨hk.1.1, fun e' => by
    rcases h5 with h5 | h5
    · exact hk.1.2 (h5 ▸ e')
    · rw [h5] at e'
      injection e' with e'
      have := hk.2
      omega⟩
  rcases List.mem_append.1 hx with hx | hx
  · exact hmv (h.kids x hx)
  · exact hmv (hin x hx)
end
/-! No row in it is above the reach. -/
namespace Ty
mutual
def light : Ty → Prop
  | node _ _ _ ks => ks.length * 56 ≤ 140737488351232 ∧ lights ks
def lights : List Ty → Prop
  | [] => True
  | t :: ts => light t ∧ lights ts
end
theorem lights_mem : ∀ {ts : List Ty} {t : Ty}, lights ts → t ∈ ts → light t
  | x :: ts, t, h, hm => by
    unfold lights at h
    rcases List.mem_cons.1 hm with rfl | hm
    · exact h.1
    · exact lights_mem h.2 hm
theorem lights_of : ∀ {ts : List Ty}, (∀ t ∈ ts, light t) → lights ts
  | [], _ => by unfold lights; trivial
  | t :: ts, h => by unfold lights; exact ⟨h t List.mem_cons_self, lights_of fun x hx => h x (List.mem_cons_of_mem _ hx)⟩
theorem light_ks {t : Ty} (h : light t) : t.ks.length * 56 ≤ 140737488351232 ∧ lights t.ks := by
  obtain ⟨k, nm, n, ks⟩ := t
  unfold light at h
  exact h
end Ty
end Go.Proofs.Ytigaondgopahgaa
