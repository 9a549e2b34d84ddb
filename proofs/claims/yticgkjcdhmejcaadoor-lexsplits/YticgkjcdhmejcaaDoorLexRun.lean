/- run, HasPrefix, IndexByte, skip. -/
import Derived.Test.YticgkjcdhmejcaaDoorLexByte
import Derived.Outline
namespace Go.Proofs.YticgkjcdhmejcaaDoor
open Go.RowKit
set_option linter.unusedVariables false
set_option linter.unusedSimpArgs false

theorem ld_tells : Tells 46 isLD := by
  refine ⟨fun _ _ => by kernel_rfl, ?_⟩
  intro c w hc
  go_enter Tryd.func46, Tryd.ntmps46
  go_wp2_with fail
  refine (letter_tells.call c _ hc).mono ?_
  rintro e w1 ⟨rfl, rfl⟩
  cases hl : isLet c with
  | true =>
    go_wp2
    go_ret
    exact ⟨ret_bool (by unfold isLD; rw [hl]; rfl), rfl⟩
  | false =>
    go_wp2_with fail
    refine (digit_tells.call c _ hc).mono ?_
    rintro e w2 ⟨rfl, rfl⟩
    go_wp2
    go_ret
    exact ⟨ret_bool (by unfold isLD; rw [hl]; rfl), rfl⟩

theorem ret_i64 {a b : Int} (h : a = b) : Ending.returned (.int .i64 a) = .returned (.int .i64 b) := by rw [h]

set_option maxHeartbeats 1000000 in
set_option maxRecDepth 100000 in
theorem run_any (f : FuncId) (p : Nat → Bool) (hf : Tells f p) (s : ByteArray) (bs : List Nat) (i : Nat) (w : World) (hs : Spells s bs) (hl : s.size ≤ 100000) (hi : i ≤ s.size) :
    Calls Tryd.prog 39 #[.string s, .int .i64 (i : Int), .func (.func f) #[] #[]] w fun e w' => e = .returned (.int .i64 ((i + runv p (bs.drop i) : Nat) : Int)) ∧ w' = w := by
  have HSZ : Hid (s.size = bs.length) := hs.size
  have hen := hf.enters
  go_enter Tryd.func39, Tryd.ntmps39
  go_wp2
  go_loop [1] (fun v => ∃ j : Nat, j ≤ s.size ∧ v = .int .i64 j ∧ Hid (j + runv p (bs.drop j) = i + runv p (bs.drop i))) (fun v => s.size - (intOf v).toNat)
  case atStart => exact ⟨i, hi, rfl, rfl⟩
  case round =>
    obtain ⟨j, hj, rfl, hid⟩ := hrel
    by_cases hlt : j < s.size
    · obtain ⟨x, hx⟩ : ∃ x, x = bs.getD j 0 := ⟨_, rfl⟩
      have hget : (s[j]'hlt).toNat = x := by rw [hs.get j hlt, hx]
      have hltb : j < bs.length := by rw [← HSZ.out]; exact hlt
      have hx256 : x < 256 := by
        rw [hx]; simp only [List.getD_eq_getElem?_getD, List.getElem?_eq_getElem hltb, Option.getD_some]; exact hs.lt _ (List.getElem_mem hltb)
      have HX : Hid (x = bs.getD j 0) := hx
      have HLT : Hid (j < bs.length) := hltb
      clear hx hs hltb
      go_wp2_with fail
      refine (hf.call x _ hx256).mono ?_
      rintro e w1 ⟨rfl, rfl⟩
      cases hp : p x with
      | true =>
        have HP : Hid (p (bs.getD j 0) = true) := by show p (bs.getD j 0) = true; rw [← HX.out]; exact hp
        clear hp
        go_wp2
        go_round
        case rel => exact ⟨j + 1, by omega, by go_num, by
          show j + 1 + runv p (bs.drop (j + 1)) = _
          rw [← hid.out, runv_more p bs j HLT.out HP.out]; omega⟩
        case measure => simp [intOf]; omega
      | false =>
        have HP : Hid (p (bs.getD j 0) = false) := by show p (bs.getD j 0) = false; rw [← HX.out]; exact hp
        clear hp
        go_wp2
        go_ret
        exact ⟨ret_i64 (by have h1 := hid.out; rw [runv_zero p bs j (.inl HP.out)] at h1; omega), rfl⟩
    · have hge : (s.size : Int) ≤ (j : Int) := by omega
      have HLE : Hid (bs.length ≤ j) := by show bs.length ≤ j; rw [← HSZ.out]; omega
      clear hs
      go_wp2
      go_ret
      exact ⟨ret_i64 (by have h1 := hid.out; rw [runv_zero p bs j (.inr HLE.out)] at h1; omega), rfl⟩
end Go.Proofs.YticgkjcdhmejcaaDoor
