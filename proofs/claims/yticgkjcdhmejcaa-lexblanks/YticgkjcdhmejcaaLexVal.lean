/- lex.Value: a number token's number. -/
import Derived.Test.YticgkjcdhmejcaaLexSplit
import Derived.Lib.ConvBytes
import Derived.Laws.AppendOwn
import Derived.Deep.QuietTactic
import Derived.BigQuiet
namespace Go.Proofs.Yticgkjcdhmejcaa
open Go.RowKit
set_option linter.unusedVariables false
set_option linter.unusedSimpArgs false

/-- The number that digits are. -/
def valv (l : List Nat) : Nat := l.foldl (fun n c => n * 10 + (c - 48)) 0
theorem valv_take (l : List Nat) (k : Nat) (h : k < l.length) : valv (l.take (k + 1)) = valv (l.take k) * 10 + (l.getD k 0 - 48) := by
  unfold valv
  rw [List.take_succ_eq_append_getElem h, List.foldl_append]
  simp [h]
theorem digit_bounds {c : Nat} (h : isDig c = true) : 48 ≤ c ∧ c ≤ 57 := by simpa [isDig] using h
theorem valv_lt (l : List Nat) (hd : ∀ c ∈ l, isDig c = true) (k : Nat) (hk : k ≤ l.length) : valv (l.take k) < 10 ^ k := by
  induction k with
  | zero => simp [valv]
  | succ k ih =>
    have h1 := ih (by omega)
    rw [valv_take l k (by omega), Nat.pow_succ]
    have h2 := digit_bounds (hd (l.getD k 0) (by simp [show k < l.length by omega]))
    omega

theorem runv_full (p : Nat → Bool) (l : List Nat) (h : ∀ c ∈ l, p c = true) : runv p l = l.length := by
  induction l with
  | nil => rfl
  | cons c l ih => rw [runv, if_pos (h c (by simp)), ih fun x hx => h x (by simp [hx])]; rfl

theorem bytes_of {s : ByteArray} {bs : List Nat} (W : World) (hs : Spells s bs) :
    ∃ (W' : World) (cap : Nat), (convert 9 23 (.string s)).run Try.prog W = .ok (.slice (some ⟨W.heap.size, 0, none⟩) s.size cap) W' ∧ Kept W.heap.size W W' ∧ s.size ≤ cap ∧ W.heap.size < W'.heap.size ∧
      ∀ j, j < s.size → W'.cell? ⟨W.heap.size, j, none⟩ = some (.int .u8 (bs.getD j 0 : Int)) := by
  refine ⟨_, _, Go.Lib.run_convert_string_bytes W 9 23 5 s Try.underlying9 Try.underlying23 Try.underlying5, ⟨rfl, rfl, ?_, fun k hk => Go.Lib.bytesWorld_at_old W _ s k hk⟩, ?_, ?_, fun j hj => ?_⟩
  · rw [Go.Lib.bytesWorld_size]; omega
  · exact grownCap_ge _ _ _ _
  · rw [Go.Lib.bytesWorld_size]; omega
  · rw [Go.Lib.bytesWorld_cell W _ s j hj, hs.data]
    have hb : j < bs.length := by rw [← hs.size]; exact hj
    have hx := hs.lt bs[j] (List.getElem_mem hb)
    simp [hb]
    omega

theorem digits_run {s : ByteArray} {l : List Nat} (w : World) (hs : Spells s l) (hb : ∀ c ∈ l, isDig c = true) (hl : s.size ≤ 10) :
    Calls Try.prog 28 #[.string s, .int .i64 0, .func (.func 29) #[] #[]] w fun e w' => e = .returned (.int .i64 (s.size : Int)) ∧ w' = w := by
  refine (run_any _ isDig digit_tells s l 0 w hs (by omega) (Nat.zero_le _)).mono ?_
  rintro e w' ⟨rfl, rfl⟩
  rw [List.drop_zero, runv_full isDig l hb, ← hs.size, Nat.zero_add]
  exact ⟨rfl, rfl⟩

theorem sub48 {x : Nat} (h1 : 48 ≤ x) (h2 : x ≤ 57) : IntKind.u8.wrap ((x : Int) - 48) = ((x - 48 : Nat) : Int) := by rw [IntKind.wrap_u8]; omega

set_option maxHeartbeats 1000000 in
set_option maxRecDepth 100000 in
theorem value_any (s : ByteArray) (l : List Nat) (p : Int) (w : World) (hs : Spells s l) (hb : ∀ c ∈ l, isDig c = true) (hl : s.size ≤ 10) :
    Calls Try.prog 21 #[.agg #[.int .i64 2, .string s, .int .i64 p]] w fun e w' => e = .returned (.int .i64 (valv l : Int)) ∧ Kept w.heap.size w w' := by
  have HS : Hid (Spells s l) := hs
  have HB : Hid (∀ c ∈ l, isDig c = true) := hb
  clear hs hb
  go_enter Try.func21, Try.ntmps21
  go_wp2
  have hgd : decide ((10 : Int) < (s.size : Int)) = false := decide_eq_false (by omega)
  go_quiet (first | (go_at_call 28; exact Calls.quiet_of_same (digits_run _ HS.out HB.out hl)))
  have c1 : ((w.alloc (.cells #[.int .i64 2, .string s, .int .i64 p] 53)).drewN nq).cell? ⟨w.heap.size, 1, none⟩ = some (.string s) := by
    show (w.alloc (.cells #[.int .i64 2, .string s, .int .i64 p] 53)).cell? ⟨w.heap.size, 1, none⟩ = _
    simp
  have KW : Hid (Kept w.heap.size w ((w.alloc (.cells #[.int .i64 2, .string s, .int .i64 p] 53)).drewN nq)) := by
    have k := Kept.alloc (Kept.refl w.heap.size w) (Nat.le_refl _) (.cells #[.int .i64 2, .string s, .int .i64 p] 53)
    exact ⟨k.os, k.output, k.size, k.block⟩
  generalize ((w.alloc (.cells #[.int .i64 2, .string s, .int .i64 p] 53)).drewN nq) = W1 at *
  obtain ⟨W', cap, hcv, hK', hcap, hlt', hcells⟩ := bytes_of W1 HS.out
  have HK : Hid (Kept w.heap.size w W') := KW.out.trans (hK'.mono KW.out.size)
  have HSZ : Hid (s.size = l.length) := HS.out.size
  clear hK' hgd
  go_wp2
  go_loop [3, 28] (fun n k => ∃ j acc : Nat, j ≤ s.size ∧ k = .int .i64 j ∧ n = .int .i64 acc ∧ acc ≤ 10000000000 ∧ Hid (acc = valv (l.take j))) (fun _ k => s.size - (intOf k).toNat)
  case atStart => exact ⟨0, 0, Nat.zero_le _, rfl, rfl, by omega, by show 0 = valv (l.take 0); simp [valv]⟩
  case round =>
    obtain ⟨j, acc, hj, rfl, rfl, hacc, hid⟩ := hrel
    by_cases hjl : j < s.size
    · obtain ⟨x, hx⟩ : ∃ x, x = l.getD j 0 := ⟨_, rfl⟩
      have hcell : W'.cell? ⟨W1.heap.size, j, none⟩ = some (.int .u8 (x : Int)) := by rw [hx]; exact hcells j hjl
      have hlb : j < l.length := by rw [← HSZ.out]; exact hjl
      have hd := digit_bounds (HB.out x (by rw [hx]; simp [hlb]))
      have h48 := sub48 hd.1 hd.2
      have hv : acc * 10 + (x - 48) = valv (l.take (j + 1)) := by rw [valv_take l j hlb, ← hid.out, hx]
      have hlow : acc < 10 ^ j := by rw [hid.out]; exact valv_lt l HB.out j (by omega)
      have hvb : acc * 10 + (x - 48) ≤ 10000000000 := by
        have h1 := valv_lt l HB.out (j + 1) (by omega)
        rw [← hv] at h1
        have h2 : 10 ^ (j + 1) ≤ 10 ^ 10 := Nat.pow_le_pow_right (by decide) (by omega)
        omega
      have HV : Hid (acc * 10 + (x - 48) = valv (l.take (j + 1))) := hv
      obtain ⟨y, hy⟩ : ∃ y, y = x - 48 := ⟨_, rfl⟩
      have h48' : IntKind.u8.wrap ((x : Int) - 48) = (y : Int) := by rw [hy]; exact h48
      have hy9 : y ≤ 9 := by omega
      have HY : Hid (y = x - 48) := hy
      rw [← hy] at hvb
      clear hx hcells hd h48 hv hlow hid hlb hy
      go_wp2
      go_round
      case rel => exact ⟨j + 1, acc * 10 + y, by omega, by go_num, by go_num, hvb, by
        show acc * 10 + y = valv (l.take (j + 1))
        rw [HY.out]; exact HV.out⟩
      case measure => simp [intOf]; omega
    · have hE : Hid (acc = valv l) := by
        show acc = valv l
        rw [hid.out, List.take_of_length_le (by rw [← HSZ.out]; omega)]
      clear hcells hid
      go_wp2
      go_ret
      exact ⟨ret_i64 (by rw [hE.out]), HK.out⟩
end Go.Proofs.Yticgkjcdhmejcaa
