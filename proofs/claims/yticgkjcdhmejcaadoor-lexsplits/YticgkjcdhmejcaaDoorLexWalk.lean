/- The walk of LexSplits. -/
import Derived.Test.YticgkjcdhmejcaaDoorRefTok
import Derived.Test.YticgkjcdhmejcaaDoorLexVal
import Derived.Test.YticgkjcdhmejcaaDoorAtBare
import Derived.Test.YticgkjcdhmejcaaDoorTkFacts
import Derived.Deep.QuietTactic
import Derived.BigQuiet
import Derived.Deep.RegionWith
import Derived.Deep.DrawnRows
namespace Go.Proofs.YticgkjcdhmejcaaDoor
open Go.RowKit
set_option linter.unusedVariables false
set_option linter.unusedSimpArgs false

theorem first_number {r : List Nat} {l : List Nat} {n : Nat} (h : first r = (2, l, n)) : (∀ c ∈ l, isDig c = true) ∧ l.length ≤ 10 := by
  unfold first at h
  split at h
  · cases h
  · split at h
    · cases h
    · split at h
      · cases h
      · split at h
        · split at h
          · cases h
          · rename_i h10
            injection h with _ h; injection h with h1 h2
            subst h1
            refine ⟨fun c hc => ?_, by simp; omega⟩
            obtain ⟨k, hk, rfl⟩ := List.mem_iff_getElem.1 hc
            have hk' : k < runv isDig r := by simp at hk; omega
            have := runv_all isDig r k hk'
            have hl : k < r.length := by have := runv_le isDig r; omega
            simpa [hl] using this
        · split at h
          · split at h <;> cases h
          · split at h <;> cases h

theorem lexv_numbers (f i : Nat) (r : List Nat) (ts : List Tk) (h : lexv f i r = .ok ts) : ∀ t ∈ ts, t.kind = 2 → (∀ c ∈ t.text, isDig c = true) ∧ t.text.length ≤ 10 := by
  induction f generalizing i r ts with
  | zero => unfold lexv at h; injection h with h; subst h; intro t ht; cases ht
  | succ f ih =>
    unfold lexv at h
    split at h
    · injection h with h; subst h
      intro t ht hk
      simp at ht; subst ht; cases hk
    · split at h
      · exact ih _ _ _ h
      · split at h
        · rcases hr : lexv f (i + (first r).2.2) (r.drop (first r).2.2) with e | l
          · rw [hr] at h; cases h
          · rw [hr] at h
            injection h with h; subst h
            intro t ht hk
            rcases List.mem_cons.1 ht with rfl | ht
            · exact first_number (n := (first r).2.2) (by rw [← show (first r).1 = 2 from hk])
            · exact ih _ _ _ hr t ht hk
        · cases h
theorem toks_numbers {i : Nat} {r : List Nat} {ts : List Tk} (h : toks i r = .ok ts) : ∀ t ∈ ts, t.kind = 2 → (∀ c ∈ t.text, isDig c = true) ∧ t.text.length ≤ 10 := lexv_numbers _ _ _ _ h

abbrev TO := Except (Nat × Nat) (List Tk)
def tl0 : TO → List Tk
  | .ok l => l
  | .error _ => []
def fAgg : TO → Value
  | .ok _ => .agg #[.int .i64 0, .int .i64 (-1)]
  | .error q => .agg #[.int .i64 (q.1 : Int), .int .i64 (q.2 : Int)]
def fA : TO → Int
  | .ok _ => 0
  | .error q => (q.1 : Int)
def fB : TO → Int
  | .ok _ => -1
  | .error q => (q.2 : Int)
def IsErr (w : World) (v : Value) : TO → Prop
  | .ok _ => v = .nilIface
  | .error q => ∃ b, v = .iface 91 (.pointer (some ⟨b, 0, none⟩)) ∧ w.cell? ⟨b, 0, none⟩ = some (.int .i64 (q.1 : Int)) ∧ w.cell? ⟨b, 1, none⟩ = some (.int .i64 (q.2 : Int))
theorem is_un {w : World} {v : Value} {o : TO} (hL : Laid w) (h : IsErr w v o) : Calls Tryd.prog 27 #[v, .agg #[.int .i64 (fA o), .int .i64 (fB o)]] w fun e w' => e = .returned (.bool true) ∧ Kept w.heap.size w w' := by
  cases o with
  | ok l => obtain rfl : v = .nilIface := h; exact is_nil w
  | error q => obtain ⟨b, rfl, h1, h2⟩ := h; exact is_at b _ _ w hL h1 h2
theorem IsErr.kept {w w' : World} {v : Value} {o : TO} (h : IsErr w v o) (k : Kept w.heap.size w w') : IsErr w' v o := by
  cases o with
  | ok l => exact h
  | error q =>
    obtain ⟨b, h1, h3, h4⟩ := h
    have hb := World.block_lt_of_cell? _ _ h3
    exact ⟨b, h1, by rw [k.cell (p := ⟨b, 0, none⟩) hb]; exact h3, by rw [k.cell (p := ⟨b, 1, none⟩) hb]; exact h4⟩

theorem rtok_un {w : World} {s : ByteArray} {bs : List Nat} (hs : Spells s bs) (hlen : s.size ≤ 10000) :
    Calls Tryd.prog 25 #[.string s] w fun e w' => ∃ (ts : List Tk) (ao : Option Addr) (b off cap : Nat), ts = tl0 (toks 0 bs) ∧ e = .returned (.tuple #[.slice ao ts.length cap, .agg #[.int .i64 (fA (toks 0 bs)), .int .i64 (fB (toks 0 bs))]]) ∧ TList w w' ts ao b off cap := by
  refine (rtoks_any hs hlen).mono ?_
  rintro e w1 (⟨c, p, ht, rfl, hk⟩ | ⟨ts, ao, b, off, cap, ht, rfl, hT⟩)
  · rw [ht]; exact ⟨[], none, 0, 0, 0, rfl, rfl, tcame_nil _ _ _ _, fun h => absurd h (by decide), hk⟩
  · rw [ht]; exact ⟨ts, ao, b, off, cap, rfl, rfl, hT⟩
theorem lsplit_un {w : World} {s : ByteArray} {bs : List Nat} (hs : Spells s bs) (hlen : s.size ≤ 10000) :
    Calls Tryd.prog 26 #[.string s] w fun e w' => ∃ (ts : List Tk) (ao : Option Addr) (b off cap : Nat) (v : Value), ts = tl0 (toks 0 bs) ∧ e = .returned (.tuple #[.slice ao ts.length cap, v]) ∧ IsErr w' v (toks 0 bs) ∧ TList w w' ts ao b off cap := by
  refine (lsplit_any hs (by omega)).mono ?_
  rintro e w1 (⟨c, p, v, ht, rfl, hA, hk⟩ | ⟨ts, ao, b, off, cap, ht, rfl, hT⟩)
  · rw [ht]
    obtain ⟨b, h1, h2, h3, h4⟩ := hA
    exact ⟨[], none, 0, 0, 0, v, rfl, rfl, ⟨b, h1, h3, h4⟩, tcame_nil _ _ _ _, fun h => absurd h (by decide), hk⟩
  · rw [ht]; exact ⟨ts, ao, b, off, cap, .nilIface, rfl, rfl, rfl, hT⟩

theorem toks_many (f i : Nat) (r : List Nat) (ts : List Tk) (h : lexv f i r = .ok ts) : ts.length ≤ r.length + 1 := by
  induction f generalizing i r ts with
  | zero => unfold lexv at h; injection h with h; subst h; simp
  | succ f ih =>
    unfold lexv at h
    split at h
    · injection h with h; subst h; simp
    · rename_i h0
      split at h
      · have := ih _ _ _ h; simp at this; omega
      · split at h
        · rename_i h10
          have hl := first_len h0 h10
          rcases hr : lexv f (i + (first r).2.2) (r.drop (first r).2.2) with e | l
          · rw [hr] at h; cases h
          · rw [hr] at h
            injection h with h; subst h
            have := ih _ _ _ hr
            simp at this ⊢; omega
        · cases h

set_option maxHeartbeats 4000000 in
set_option maxRecDepth 100000 in
theorem lex_small (s : ByteArray) (bs : List Nat) (w : World) (hs : Spells s bs) (hlen : s.size ≤ 1500) (hL : Laid w) :
    Calls Tryd.prog 5 #[.string s] w fun e w' => e = .returned (.bool true) ∧ Kept w.heap.size w w' := by
  go_enter Tryd.func5, Tryd.ntmps5
  go_wp2_with fail
  refine (rtok_un hs (by omega)).mono ?_
  rintro e w1 ⟨ws, wo, wb, wf, wc, hws, rfl, hW⟩
  have HWS : Hid (ws = tl0 (toks 0 bs)) := hws
  clear hws
  have K1 : Kept w1.heap.size w1 (w1.alloc (.cells #[.int .i64 (fA (toks 0 bs)), .int .i64 (fB (toks 0 bs))] 60)) := Kept.alloc (Kept.refl _ _) (Nat.le_refl _) _
  have hW1 := hW.next K1
  clear K1 hW
  go_wp2_with fail
  refine (lsplit_un hs (by omega)).mono ?_
  rintro e w2 ⟨ls, lo, lb, lf, lc, ev, hls, rfl, hE, hT⟩
  have hk2 := hT.kept
  have hW2 := hW1.next hk2
  have r0 : w2.cell? ⟨w1.heap.size, 0, none⟩ = some (.int .i64 (fA (toks 0 bs))) := by rw [hk2.cell (by simp)]; simp
  have r1 : w2.cell? ⟨w1.heap.size, 1, none⟩ = some (.int .i64 (fB (toks 0 bs))) := by rw [hk2.cell (by simp)]; simp
  have hL2 := hL.kept hW2.kept
  have hlw : ls = ws := hls.trans HWS.out.symm
  subst hlw
  have hlen2 : ls.length ≤ 2000 := by
    rcases ht : toks 0 bs with e | l
    · rw [hls, ht]; exact Nat.zero_le _
    · have := toks_many _ _ _ _ ht
      rw [hls, ht]; show l.length ≤ 2000
      rw [← hs.size] at this; omega
  have HNUM : Hid (∀ t ∈ ls, t.kind = 2 → (∀ c ∈ t.text, isDig c = true) ∧ t.text.length ≤ 10) := by
    rcases ht : toks 0 bs with e | l
    · rw [hls, ht]; intro t h; cases h
    · rw [hls, ht]; exact toks_numbers ht
  clear hk2 hW1 HWS hls
  go_wp2_with fail
  refine (is_un hL2 hE).mono ?_
  rintro e w3 ⟨rfl, hk3⟩
  have hT3 := hT.next hk3
  have hW3 := hW2.next hk3
  have HK3 : Hid (Kept w.heap.size w w3) := hW3.kept
  have HLC : Hid (Came w3 3 lo lb lf ls.length lc (tflat ls)) := hT3.came
  have HWC : Hid (Came w3 3 wo wb wf ls.length wc (tflat ls)) := hW3.came
  clear r0 r1 hk3 hT hW2 hE hL2 hT3 hW3 hL
  go_wp2
  go_loopw [7] (fun vi wr => ∃ i : Nat, i ≤ ls.length ∧ vi = .int .i64 i ∧ Kept w3.heap.size w3 wr) (fun vi _ => ls.length - (intOf vi).toNat)
  case atStart => exact ⟨0, Nat.zero_le _, rfl, Kept.refl _ _⟩
  case round =>
    obtain ⟨i, hi, rfl, hkr⟩ := hrel
    by_cases hlt : i < ls.length
    · obtain ⟨t, ht⟩ : ∃ t, ls[i] = t := ⟨_, rfl⟩
      obtain ⟨m0, m1, m2⟩ := t_facts HLC.out hkr hlt ht
      obtain ⟨n0, n1, n2⟩ := t_facts HWC.out hkr hlt ht
      have hla : lo = some ⟨lb, lf, none⟩ := HLC.out.addr (by have := HLC.out.le; omega)
      have hwa : wo = some ⟨wb, wf, none⟩ := HWC.out.addr (by have := HWC.out.le; omega)
      have hlc := HLC.out.le
      have hwc := HWC.out.le
      have HTN : Hid (t.kind = 2 → (∀ c ∈ t.text, isDig c = true) ∧ t.text.length ≤ 10) := HNUM.out t (by rw [← ht]; exact List.getElem_mem hlt)
      subst hla hwa
      have hii : (i : Int) < (ls.length : Int) := by omega
      have HKR : Hid (Kept w3.heap.size w3 wr) := hkr
      clear ht hkr
      obtain ⟨k, l, p⟩ := t
      simp only at *
      go_wp2
      go_quiet (fail)
      have m0' : (wr.drewN nq).cell? ⟨lb, lf + i * 3, none⟩ = some (.int .i64 (k : Int)) := m0
      have m1' : (wr.drewN nq).cell? ⟨lb, lf + i * 3 + 1, none⟩ = some (.string (str l)) := m1
      have m2' : (wr.drewN nq).cell? ⟨lb, lf + i * 3 + 2, none⟩ = some (.int .i64 (p : Int)) := m2
      have n0' : (wr.drewN nq).cell? ⟨wb, wf + i * 3, none⟩ = some (.int .i64 (k : Int)) := n0
      have n1' : (wr.drewN nq).cell? ⟨wb, wf + i * 3 + 1, none⟩ = some (.string (str l)) := n1
      have HK4 : Hid (Kept w3.heap.size w3 (wr.drewN nq)) := ⟨HKR.out.os, HKR.out.output, HKR.out.size, HKR.out.block⟩
      clear m0 m1 m2 n0 n1 n2 HKR
      generalize wr.drewN nq = w4 at *
      by_cases hk2 : k = 2
      · subst hk2
        have HDIG : Hid (∀ c ∈ l, isDig c = true) := (HTN.out rfl).1
        have HS2 : Hid (Spells (str l) l) := str_spells fun c hc => by have := digit_bounds (HDIG.out c hc); omega
        have hten : (str l).size ≤ 10 := by rw [HS2.out.size]; exact (HTN.out rfl).2
        have HSZ : Hid ((str l).size = l.length) := HS2.out.size
        generalize str l = s2 at *
        clear HTN
        go_wp2
        go_loop [8, 9] (fun n k => ∃ j acc : Nat, j ≤ s2.size ∧ k = .int .i64 j ∧ n = .int .i64 acc ∧ acc ≤ 10000000000 ∧ Hid (acc = valv (l.take j))) (fun _ k => s2.size - (intOf k).toNat)
        case atStart => exact ⟨0, 0, Nat.zero_le _, rfl, rfl, by omega, by show 0 = valv (l.take 0); simp [valv]⟩
        case round =>
          obtain ⟨j, acc, hj, rfl, rfl, hacc, hid⟩ := hrel
          by_cases hjl : j < s2.size
          · obtain ⟨x, hx⟩ : ∃ x, x = l.getD j 0 := ⟨_, rfl⟩
            have hget : (s2[j]'hjl).toNat = x := by rw [HS2.out.get j hjl, hx]
            have hlb : j < l.length := by rw [← HSZ.out]; exact hjl
            have hd := digit_bounds (HDIG.out x (by rw [hx]; simp [hlb]))
            have h48 := sub48 hd.1 hd.2
            have hv : acc * 10 + (x - 48) = valv (l.take (j + 1)) := by rw [valv_take l j hlb, ← hid.out, hx]
            have hvb : acc * 10 + (x - 48) ≤ 10000000000 := by
              have h1 := valv_lt l HDIG.out (j + 1) (by omega)
              rw [← hv] at h1
              have h2 : 10 ^ (j + 1) ≤ 10 ^ 10 := Nat.pow_le_pow_right (by decide) (by omega)
              omega
            have HV : Hid (acc * 10 + (x - 48) = valv (l.take (j + 1))) := hv
            obtain ⟨y, hy⟩ : ∃ y, y = x - 48 := ⟨_, rfl⟩
            have h48' : IntKind.u8.wrap ((x : Int) - 48) = (y : Int) := by rw [hy]; exact h48
            have hy9 : y ≤ 9 := by omega
            have HY : Hid (y = x - 48) := hy
            rw [← hy] at hvb
            clear hx hd h48 hv hid hlb hy m0' m1' m2' n0'
            go_wp2
            go_round
            case rel => exact ⟨j + 1, acc * 10 + y, by omega, by go_num, by go_num, hvb, by
              show acc * 10 + y = valv (l.take (j + 1))
              rw [HY.out]; exact HV.out⟩
            case measure => simp [intOf]; omega
          · have hE : Hid (acc = valv l) := by
              show acc = valv l
              rw [hid.out, List.take_of_length_le (by rw [← HSZ.out]; omega)]
            have hge : (s2.size : Int) ≤ (j : Int) := by omega
            clear hid
            go_wp2_with fail
            refine (value_any s2 l _ _ HS2.out HDIG.out hten).mono ?_
            rintro e w5 ⟨rfl, hk5⟩
            have HK5 : Hid (Kept w3.heap.size w3 w5) := HK4.out.trans (hk5.mono HK4.out.size)
            have hne : (((valv l : Nat) : Int) != (acc : Int)) = false := by rw [bne_eq_false_iff_eq, hE.out]
            clear hk5 m0' m1' m2' n0' n1'
            go_wp2
            refine ⟨⟨i + 1, by omega, by go_num, HK5.out⟩, ?_⟩
            simp [intOf]; omega
      · have hkb : ((k : Int) == 2) = false := by rw [beq_eq_false_iff_ne]; omega
        go_wp2
        refine ⟨⟨i + 1, by omega, by go_num, HK4.out⟩, ?_⟩
        simp [intOf]; omega
    · have HKR : Hid (Kept w.heap.size w wr) := HK3.out.trans (hkr.mono HK3.out.size)
      clear hkr
      go_wp2
      go_ret
      exact ⟨rfl, HKR.out⟩
end Go.Proofs.YticgkjcdhmejcaaDoor
