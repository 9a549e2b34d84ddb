/- GetVarint: the number that stands first. -/
import Derived.Test.YticgkjcdhmejcaaNums
namespace Go.Proofs.Yticgkjcdhmejcaa
open Go.RowKit
/-- ErrForm, as an error. -/
def errForm : Value := .iface 57 (.int .i64 3)
/-- What GetVarint returns. -/
def gvRes : Option (Nat × Nat) → Ending
  | some p => .returned (.tuple #[.int .u64 (p.1 : Int), .int .i64 (p.2 : Int), .nilIface])
  | none => .returned (.tuple #[.int .u64 0, .int .i64 0, errForm])

theorem gv_some {o : Option (Nat × Nat)} {p : Nat × Nat} {a c : Int} (h : o = some p) (h1 : a = (p.1 : Int)) (h2 : c = (p.2 : Int)) :
    Ending.returned (.tuple #[.int .u64 a, .int .i64 c, .nilIface]) = gvRes o := by subst h h1 h2; rfl
theorem gv_none {o : Option (Nat × Nat)} (h : o = none) : Ending.returned (.tuple #[.int .u64 0, .int .i64 0, .iface 57 (.int .i64 3)]) = gvRes o := by subst h; rfl
theorem or_acc9 {acc x : Nat} (hx : x < 256) (hacc : acc < 128 ^ 9) (h1 : x ≤ 1) :
    bits .or .u64 (acc : Int) (IntKind.u64.wrap (IntKind.u64.wrap (bits .andNot .u8 (x : Int) 128) * 9223372036854775808)) = ((acc + 128 ^ 9 * (x % 128) : Nat) : Int) :=
  or_acc (k := 9) hx hacc (.inr ⟨rfl, h1⟩)

set_option maxHeartbeats 1000000 in
set_option maxRecDepth 100000 in
theorem get_some (b off cap : Nat) (bs : List Nat) (w : World) (hb : ∀ x ∈ bs, x < 256) (hl : bs.length ≤ maxLen)
    (hc : ∀ j, j < bs.length → w.cell? ⟨b, off + j, none⟩ = some (.int .u8 ((bs.getD j 0 : Nat) : Int))) :
    Calls Try.prog 8 #[.slice (some ⟨b, off, none⟩) bs.length cap] w fun e w' => e = gvRes (getv bs 0) ∧ w' = w := by
  unfold maxLen at hl
  go_enter Try.func8, Try.ntmps8
  go_wp2
  all_goals
    go_loop [5, 10] (fun n i => ∃ k acc : Nat, k ≤ bs.length ∧ k ≤ 9 ∧ i = .int .i64 k ∧ n = .int .u64 acc ∧ Hid (acc < 128 ^ k) ∧
        Hid (getv bs 0 = (getv (bs.drop k) k).map fun p => (acc + 128 ^ k * p.1, k + p.2))) (fun _ i => 10 - (intOf i).toNat)
    case atStart => exact ⟨0, 0, Nat.zero_le _, by omega, rfl, rfl, by show 0 < 1; decide, by
      show getv bs 0 = _
      simp⟩
    case round =>
      obtain ⟨k, acc, hk, hk9, rfl, rfl, hacc, hid⟩ := hrel
      by_cases hlt : k < bs.length
      · obtain ⟨x, hx⟩ : ∃ x, x = bs.getD k 0 := ⟨_, rfl⟩
        have hcell : w.cell? ⟨b, off + k, none⟩ = some (.int .u8 (x : Int)) := by rw [hx]; exact hc k hlt
        have hx256 : x < 256 := by
          rw [hx]; simp only [List.getD_eq_getElem?_getD, List.getElem?_eq_getElem hlt, Option.getD_some]; exact hb _ (List.getElem_mem hlt)
        have HX : Hid (x = bs.getD k 0) := hx
        clear hx hc hb
        by_cases h9 : k = 9
        · subst h9
          by_cases hx1 : x ≤ 1
          · go_wp2
            go_ret3
            refine ⟨gv_some (getv_hit hlt (by rw [← HX.out]; omega) (by rw [← HX.out]; omega) hid.out) ?_ rfl, rfl⟩
            rw [← HX.out]
            exact or_acc9 hx256 hacc.out hx1
          · go_wp2
            go_ret3
            exact ⟨gv_none (getv_bad hlt rfl (by rw [← HX.out]; omega) hid.out), rfl⟩
        · have hk8 : k < 9 := by omega
          go_wp2
          · go_ret3
            have h128 : (x : Int) < 128 := by assumption
            refine ⟨gv_some (getv_hit hlt (by rw [← HX.out]; omega) (by omega) hid.out) ?_ (by simp), rfl⟩
            rw [← HX.out]
            exact or_acc (k := k) hx256 hacc.out (.inl hk8)
          · have h128 : (128 : Int) ≤ (x : Int) := by assumption
            go_round
            case rel =>
              refine ⟨k + 1, acc + 128 ^ k * (x % 128), by omega, by omega, by go_num, ?_, ?_, ?_⟩
              · rw [or_acc (k := k) hx256 hacc.out (.inl hk8)]
              · exact acc_lt hacc.out
              · have := getv_more hlt (by rw [← HX.out]; omega) (by omega) hid.out
                rw [← HX.out] at this
                exact this
            case measure => simp [intOf]; omega
      · have hkl : k = bs.length := by omega
        first
          | omega
          | (go_wp2
             go_ret3
             exact ⟨gv_none (getv_stop hkl hid.out), rfl⟩)

theorem get_nil (a : Option Addr) (cap : Nat) (w : World) :
    Calls Try.prog 8 #[.slice a 0 cap] w fun e w' => e = gvRes (getv [] 0) ∧ w' = w := by
  go_enter Try.func8, Try.ntmps8
  go_wp2
  go_loop [5, 10] (fun n i => i = .int .i64 0) (fun _ _ => 0)
  case atStart => rfl
  case round =>
    subst hrel
    go_wp2
    go_ret3
    exact ⟨rfl, rfl⟩
end Go.Proofs.Yticgkjcdhmejcaa
