/- api.Tell, plain.Place, is: of an error at a place. -/
import Derived.Test.YticgkjcdhmejcaaDoorAsAt
import Derived.Test.YticgkjcdhmejcaaDoorBare
import Derived.RegionTactic
import Derived.ChangeAlike
namespace Go.Proofs.YticgkjcdhmejcaaDoor
open Go.RowKit Go.Extern.Stop Go.Stop Go.Extern
set_option linter.unusedVariables false

set_option maxHeartbeats 1000000 in
theorem tell_at (b : Nat) (x : Int) (w : World) (hL : Laid w) (hb : w.cell? ⟨b, 0, none⟩ = some (.int .i64 x)) : Calls Tryd.prog 51 #[.iface 91 (.pointer (some ⟨b, 0, none⟩))] w fun e w' => e = .returned (.int .i64 x) ∧ Kept w.heap.size w w' := by
  have HL := hL.kept (Kept.alloc (Kept.refl _ _) (Nat.le_refl _) (.cells #[.int .i64 0] 24))
  have hbl : b < w.heap.size := World.block_lt_of_cell? _ _ hb
  have HB : (w.alloc (.cells #[.int .i64 0] 24)).cell? ⟨b, 0, none⟩ = some (.int .i64 x) := by
    rw [World.cell?_alloc_lt _ _ ⟨b, 0, none⟩ hbl]; exact hb
  clear hb
  go_enter Tryd.func51, Tryd.ntmps51
  go_wp2_with fail
  refine (as_at ⟨w.heap.size, 0, none⟩ b x (.int .i64 0) _ HL (by simp) (by simp) HB).mono ?_
  rintro e w' ⟨rfl, w1, hk, rfl⟩
  have hc : w1.cell? ⟨w.heap.size, 0, none⟩ = some (.int .i64 0) := by rw [hk.cell (by simp)]; simp
  have hs : w.heap.size + 1 ≤ w1.heap.size := by have := hk.size; simpa using this
  have HK : Kept w.heap.size w (w1.setCell ⟨w.heap.size, 0, none⟩ (.int .i64 x)) := Kept.setCell ((Kept.alloc (Kept.refl _ _) (Nat.le_refl _) _).trans (hk.mono (by simp))) (by simp) _
  clear hk HB
  go_wp2
  go_ret
  exact ⟨rfl, HK⟩

set_option maxHeartbeats 1000000 in
set_option maxRecDepth 100000 in
theorem place_at (b : Nat) (x p : Int) (w : World) (hL : Laid w) (hb : w.cell? ⟨b, 0, none⟩ = some (.int .i64 x)) (hp : w.cell? ⟨b, 1, none⟩ = some (.int .i64 p)) : Calls Tryd.prog 38 #[.iface 91 (.pointer (some ⟨b, 0, none⟩))] w fun e w' => e = .returned (.tuple #[.int .i64 x, .int .i64 p]) ∧ Kept w.heap.size w w' := by
  have hA := a_at
  have hbl : b < w.heap.size := World.block_lt_of_cell? _ _ hb
  go_enter Tryd.func38, Tryd.ntmps38
  go_wp2_with fail
  refine (tell_at b x _ hL hb).mono ?_
  rintro e w' ⟨rfl, HK⟩
  have hp2 : w'.cell? ⟨b, 1, none⟩ = some (.int .i64 p) := (HK.cell (p := ⟨b, 1, none⟩) hbl).trans hp
  have HKH : Hid (Kept w.heap.size w w') := HK
  clear hb hp HK
  go_wp2_with fail
  refine wp_loop_rounds 1 ?_
  rw [rounds_succ]
  go_wp2
  go_region
  all_goals
    go_wp2
    go_ret2
    exact ⟨rfl, HKH.out.drew⟩

set_option maxHeartbeats 1000000 in
theorem is_at (b : Nat) (x p : Int) (w : World) (hL : Laid w) (hb : w.cell? ⟨b, 0, none⟩ = some (.int .i64 x)) (hp : w.cell? ⟨b, 1, none⟩ = some (.int .i64 p)) : Calls Tryd.prog 27 #[.iface 91 (.pointer (some ⟨b, 0, none⟩)), .agg #[.int .i64 x, .int .i64 p]] w fun e w' => e = .returned (.bool true) ∧ Kept w.heap.size w w' := by
  have HL := hL.kept (Kept.alloc (Kept.refl _ _) (Nat.le_refl _) (.cells #[.int .i64 x, .int .i64 p] 60))
  have hbl : b < w.heap.size := World.block_lt_of_cell? _ _ hb
  have HB : (w.alloc (.cells #[.int .i64 x, .int .i64 p] 60)).cell? ⟨b, 0, none⟩ = some (.int .i64 x) := by
    rw [World.cell?_alloc_lt _ _ ⟨b, 0, none⟩ hbl]; exact hb
  have HP : (w.alloc (.cells #[.int .i64 x, .int .i64 p] 60)).cell? ⟨b, 1, none⟩ = some (.int .i64 p) := by
    rw [World.cell?_alloc_lt _ _ ⟨b, 1, none⟩ hbl]; exact hp
  clear hb hp
  go_enter Tryd.func27, Tryd.ntmps27
  go_wp2_with fail
  refine (place_at b x p _ HL HB HP).mono ?_
  rintro e w1 ⟨rfl, hk⟩
  have c0 : w1.cell? ⟨w.heap.size, 0, none⟩ = some (.int .i64 x) := by rw [hk.cell (by simp)]; simp
  have c1 : w1.cell? ⟨w.heap.size, 1, none⟩ = some (.int .i64 p) := by rw [hk.cell (by simp)]; simp
  have HK : Kept w.heap.size w w1 := (Kept.alloc (Kept.refl _ _) (Nat.le_refl _) _).trans (hk.mono (by simp))
  clear hk HL HB HP
  go_wp2
  go_ret
  exact ⟨rfl, HK⟩
end Go.Proofs.YticgkjcdhmejcaaDoor
