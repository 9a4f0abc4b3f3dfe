/- alike: a disk and the reference's. -/
import Derived.Test.YtdohfkblmadejaaRf
namespace Go.Proofs.Ytdohfkblmadejaa
open Go.RowKit Dsk

theorem quietL {P : Program} {f : FuncId} {args : Array Value} {w : World} {n : Nat} {v : Value} (h : Calls P f args (w.drewN n) fun e w' => e = .returned v ∧ w.drewN n = w') : Calls P f args (w.drewN n) fun e w'' => e = .returned v ∧ ∃ m, w'' = w.drewN m :=
  h.mono fun _ _ ⟨he, hm⟩ => ⟨he, n, hm.symm⟩
theorem below_drewN (w : World) (n : Nat) : Below w.heap.size w (w.drewN n) := ⟨rfl, rfl, rfl, Nat.le_refl _, fun _ _ => rfl⟩

set_option maxRecDepth 20000 in
set_option maxHeartbeats 1000000 in
theorem alike_any (g r : Nat) (F G : Nat → Prop) (D : DS) (w : World) (h : Disk w F g D) (hr : Ref w G r D) :
    Calls Try.prog 17 #[.pointer (some ⟨g, 0, none⟩), .pointer (some ⟨r, 0, none⟩)] w fun e w' => e = .returned (.bool true) ∧ Below w.heap.size w w' := by
  have C1 := Lib.hid fun m => Disk.dead_ g F D (w.drewN m) (h.below (below_drewN w m))
  have C2 := Lib.hid fun m => Disk.pending_ g F D (w.drewN m) (h.below (below_drewN w m))
  have C3 := Lib.hid fun m => Disk.steps_ g F D (w.drewN m) (h.below (below_drewN w m))
  have C4 := Lib.hid fun m => Disk.sectors_ g F D (w.drewN m) (h.below (below_drewN w m))
  obtain ⟨E, gs, c, pv, hk, _⟩ := hr
  have hh := hk.hd
  obtain ⟨A, cp, rfl, _, _⟩ := hk.pend.shape
  have c0 := hh.c0
  have c1 := hh.c1
  have c2 := hh.c2
  have c4 := hh.c4
  clear hh hk h
  generalize D.S.length = n1 at *
  generalize D.P.length = n2 at *
  generalize D.steps = n3 at *
  generalize D.dead = b at *
  have e0 : (b == b) = true := by simp
  have e1 : ((n1 : Int) == (n1 : Int)) = true := by simp
  have e2 : ((n2 : Int) == (n2 : Int)) = true := by simp
  have e3 : ((n3 : Int) == (n3 : Int)) = true := by simp
  go_enter Try.func17, Try.ntmps17
  go_wp2_with fail
  go_quiet ((first
    | (go_at_call 33; exact quietL (C1.out _))
    | (go_at_call 29; exact quietL (C2.out _))
    | (go_at_call 34; exact quietL (C3.out _))
    | (go_at_call 36; exact quietL (C4.out _))))
  go_wp2_with fail
  go_ret
  exact ⟨rfl, below_drewN _ _⟩

end Go.Proofs.Ytdohfkblmadejaa
