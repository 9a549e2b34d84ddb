/- The fact: four tokens, and the end. -/
import Derived.Test.YticgkjcdhmejcaaTkFacts
import Derived.Test.YticgkjcdhmejcaaLexVal
import Derived.Deep.RegionWith
import Derived.Deep.DrawnRows
namespace Go.Proofs.Yticgkjcdhmejcaa
open Go.RowKit
set_option linter.unusedVariables false
set_option linter.unusedSimpArgs false

def factBytes : List Nat := [97, 98, 32, 61, 32, 49, 50, 32, 59, 32, 47, 47, 32, 120]
theorem fact_toks : toks 0 factBytes = .ok [⟨1, [97, 98], 0⟩, ⟨4, [61], 3⟩, ⟨2, [49, 50], 5⟩, ⟨4, [59], 8⟩, ⟨5, [], 14⟩] := by rfl

set_option maxHeartbeats 2000000 in
set_option maxRecDepth 100000 in
theorem bfact_any (w : World) : Calls Try.prog 14 #[] w fun e w' => e = .returned (.bool true) ∧ Kept w.heap.size w w' := by
  have hs : Spells ⟨#[97, 98, 32, 61, 32, 49, 50, 32, 59, 32, 47, 47, 32, 120]⟩ factBytes := str_spells (bs := factBytes) (by unfold factBytes; simp)
  go_enter Try.func14, Try.ntmps14
  go_wp2_with fail
  refine (lsplit_any hs (by decide)).mono ?_
  rintro e w1 (⟨c, p, v, ht, _⟩ | ⟨ts, ao, b, off, cap, ht, rfl, hT⟩)
  · rw [fact_toks] at ht; cases ht
  · rw [fact_toks] at ht
    injection ht with ht
    subst ht
    have hC := hT.came
    have hcap := hC.le
    have ha : ao = some ⟨b, off, none⟩ := hC.addr (by simp at hcap; omega)
    subst ha
    have hb : b < w1.heap.size := hC.lt (by simp at hcap; omega)
    obtain ⟨_, A1, _⟩ := t_facts (t := ⟨1, [97, 98], 0⟩) hC (Kept.refl _ _) (k := 0) (by decide) rfl
    obtain ⟨B0, B1, B2⟩ := t_facts (t := ⟨2, [49, 50], 5⟩) hC (Kept.refl _ _) (k := 2) (by decide) rfl
    obtain ⟨D0, _, D2⟩ := t_facts (t := ⟨5, [], 14⟩) hC (Kept.refl _ _) (k := 4) (by decide) rfl
    have a1 : w1.cell? ⟨b, off + 1, none⟩ = some (.string (str [97, 98])) := A1
    have b0 : w1.cell? ⟨b, off + 6, none⟩ = some (.int .i64 2) := B0
    have b1 : w1.cell? ⟨b, off + 6 + 1, none⟩ = some (.string (str [49, 50])) := B1
    have b2 : w1.cell? ⟨b, off + 6 + 2, none⟩ = some (.int .i64 5) := B2
    have d0 : w1.cell? ⟨b, off + 12, none⟩ = some (.int .i64 5) := D0
    have d2 : w1.cell? ⟨b, off + 12 + 2, none⟩ = some (.int .i64 14) := D2
    have hab : ((str [97, 98]).toList == [97, 98]) = true := by
      have h1 : Spells (str [97, 98]) [97, 98] := str_spells (by simp)
      rw [h1.toList]; rfl
    have HK : Hid (Kept w.heap.size w w1) := hT.kept
    have hcap5 : 5 ≤ cap := hcap
    have hl5 : ([⟨1, [97, 98], 0⟩, ⟨4, [61], 3⟩, ⟨2, [49, 50], 5⟩, ⟨4, [59], 8⟩, ⟨5, [], 14⟩] : List Tk).length = 5 := rfl
    rw [hl5]
    clear hC hT A1 B0 B1 B2 D0 D2 hs hcap hl5
    go_wp2_with fail
    refine (value_any (str [49, 50]) [49, 50] 5 _ (str_spells (by simp)) (by decide) (by decide)).mono ?_
    rintro e w2 ⟨rfl, hk2⟩
    have e0 : w2.cell? ⟨b, off + 12, none⟩ = some (.int .i64 5) := (hk2.cell (p := ⟨b, off + 12, none⟩) hb).trans d0
    have e2 : w2.cell? ⟨b, off + 12 + 2, none⟩ = some (.int .i64 14) := (hk2.cell (p := ⟨b, off + 12 + 2, none⟩) hb).trans d2
    have HK2 : Hid (Kept w.heap.size w w2) := HK.out.trans (hk2.mono HK.out.size)
    have hv : valv [49, 50] = 12 := rfl
    rw [hv]
    clear hk2 a1 b0 b1 b2 d0 d2
    go_wp2
    go_ret
    exact ⟨rfl, HK2.out⟩
end Go.Proofs.Yticgkjcdhmejcaa
