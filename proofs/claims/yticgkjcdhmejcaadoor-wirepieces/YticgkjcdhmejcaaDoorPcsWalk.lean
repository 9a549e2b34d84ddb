/- The walk of WirePieces. -/
import Derived.Test.YticgkjcdhmejcaaDoorSame
import Derived.Test.YticgkjcdhmejcaaDoorHold
import Derived.Deep.RegionWith
import Derived.Deep.DrawnRows
namespace Go.Proofs.YticgkjcdhmejcaaDoor
open Go.RowKit
set_option linter.unusedVariables false
set_option linter.unusedSimpArgs false

def nx0 : Option Pc → Pc
  | some p => p
  | none => ⟨0, 0, 0, [], 0⟩
def oErr {α : Type} : Option α → Value
  | some _ => .nilIface
  | none => .iface 24 (.int .i64 3)
def oCode {α : Type} : Option α → Int
  | some _ => 0
  | none => 3
theorem bare_o {α : Type} (o : Option α) (w : World) (hL : Laid w) : Calls Tryd.prog 8 #[oErr o, .int .i64 (oCode o)] w fun e w' => e = .returned (.bool true) ∧ Kept w.heap.size w w' := by
  cases o with
  | some _ => exact bare_nil w
  | none => exact bare_err 3 w hL

theorem wnext_un {w : World} {a : Option Addr} {c : Nat} {bs : List Nat} (h : ReadsOr w (.slice a bs.length c) bs) (hl : bs.length ≤ 100000) :
    Calls Tryd.prog 21 #[.slice a bs.length c] w fun e w' => ∃ a n c, e = .returned (.tuple #[pcAgg (nx0 (nextv bs)) (.slice a n c), oErr (nextv bs)]) ∧ ReadsOr w' (.slice a n c) (nx0 (nextv bs)).bytes ∧ Kept w.heap.size w w' := by
  refine (next_any h (by omega)).mono ?_
  rintro e w1 (⟨hnv, rfl, hk⟩ | ⟨p, a, c, hnv, rfl, hr, hn, hk⟩)
  · rw [hnv]; exact ⟨none, 0, 0, rfl, .inl ⟨rfl, none, 0, rfl⟩, hk⟩
  · rw [hnv]; exact ⟨a, p.bytes.length, c, rfl, hr, hk⟩
theorem rnext_un {w : World} {s : ByteArray} {bs : List Nat} (h : Spells s bs) (hl : bs.length ≤ 100000) :
    Calls Tryd.prog 20 #[.string s] w fun e w' => ∃ sb sa, e = .returned (.tuple #[rpAgg (nx0 (nextv bs), sb, sa), .int .i64 (oCode (nextv bs))]) ∧ Spells sb (nx0 (nextv bs)).bytes ∧ sa.size = (nx0 (nextv bs)).long ∧ Kept w.heap.size w w' := by
  refine (rnext_any w h hl).mono ?_
  rintro e w1 (⟨hnv, rfl, hk⟩ | ⟨p, sb, sa, hnv, rfl, hb, ha, hk⟩)
  · rw [hnv]; exact ⟨⟨#[]⟩, ⟨#[]⟩, rfl, spells_nil, rfl, hk⟩
  · rw [hnv]; exact ⟨sb, sa, rfl, hb, ha, hk⟩
def pl0 : Option (List Pc) → List Pc
  | some l => l
  | none => []
theorem wsplit_un {w : World} {a : Option Addr} {c : Nat} {bs : List Nat} (h : ReadsOr w (.slice a bs.length c) bs) (hl : bs.length ≤ 100000) :
    Calls Tryd.prog 24 #[.slice a bs.length c] w fun e w' => ∃ (ps : List (Pc × Value)) (ao : Option Addr) (b off cap : Nat), ps.map Prod.fst = pl0 (pieces bs) ∧ e = .returned (.tuple #[.slice ao ps.length cap, oErr (pieces bs)]) ∧
      Came w' 5 ao b off ps.length cap (flat ps) ∧ (∀ q ∈ ps, PcOk w' b q) ∧ Kept w.heap.size w w' := by
  refine (split_any h hl).mono ?_
  rintro e w1 (⟨hp, rfl, hk⟩ | ⟨ps, ao, b, off, cap, hp, rfl, hC, hO, hk⟩)
  · rw [hp]; exact ⟨[], none, 0, 0, 0, rfl, rfl, came5_nil _ _ _ _, fun q hq => (by cases hq), hk⟩
  · rw [hp]; exact ⟨ps, ao, b, off, cap, rfl, rfl, hC, hO, hk⟩
theorem rsplit_un {w : World} {s : ByteArray} {bs : List Nat} (h : Spells s bs) (hl : bs.length ≤ 100000) :
    Calls Tryd.prog 23 #[.string s] w fun e w' => ∃ (ps : List RP) (ao : Option Addr) (b off cap : Nat), ps.map Prod.fst = pl0 (pieces bs) ∧ e = .returned (.tuple #[.slice ao ps.length cap, .int .i64 (oCode (pieces bs))]) ∧
      Came w' 5 ao b off ps.length cap (rflat ps) ∧ (∀ q ∈ ps, RpOk q) ∧ Kept w.heap.size w w' := by
  refine (rsplit_any h hl).mono ?_
  rintro e w1 (⟨hp, rfl, hk⟩ | ⟨ps, ao, b, off, cap, hp, rfl, hC, hO, hk⟩)
  · rw [hp]; exact ⟨[], none, 0, 0, 0, rfl, rfl, rcame_nil _ _ _ _, fun q hq => (by cases hq), hk⟩
  · rw [hp]; exact ⟨ps, ao, b, off, cap, rfl, rfl, hC, hO, hk⟩

theorem nx0_long {bs : List Nat} (hb : ∀ x ∈ bs, x < 256) (hl : bs.length ≤ 100000) : (nx0 (nextv bs)).long ≤ 100000 := by
  rcases h : nextv bs with _ | p
  · exact Nat.zero_le _
  · have := nextv_bound hb h
    show p.long ≤ 100000; omega

theorem rflat_get (l : List RP) (k : Nat) (hk : k < l.length) (j : Nat) (hj : j < 5) : (rflat l)[k * 5 + j]? = (rpCells l[k])[j]? := by
  induction l generalizing k with
  | nil => simp at hk
  | cons q l ih =>
    cases k with
    | zero =>
      show (rpCells q ++ rflat l)[0 * 5 + j]? = _
      rw [Nat.zero_mul, Nat.zero_add, List.getElem?_append_left (by simpa [rpCells] using hj)]; rfl
    | succ k =>
      have := ih k (by simpa using hk)
      show (rpCells q ++ rflat l)[(k + 1) * 5 + j]? = _
      rw [List.getElem?_append_right (by simp [rpCells]; omega), show (k + 1) * 5 + j - (rpCells q).length = k * 5 + j from by simp [rpCells]; omega, this]; rfl

/-- A piece's cells, in a later world. -/
theorem m_facts {w wr : World} {ao : Option Addr} {b off cap : Nat} {ps : List (Pc × Value)} (h : Came w 5 ao b off ps.length cap (flat ps)) (hk : Kept w.heap.size w wr) {k : Nat} (hkl : k < ps.length) {p : Pc} {vb : Value} (hq : ps[k] = (p, vb)) :
    wr.cell? ⟨b, off + k * 5, none⟩ = some (.int .i64 (p.number : Int)) ∧ wr.cell? ⟨b, off + k * 5 + 1, none⟩ = some (.int .i64 (p.form : Int)) ∧ wr.cell? ⟨b, off + k * 5 + 2, none⟩ = some (.int .u64 (p.num : Int)) ∧
    wr.cell? ⟨b, off + k * 5 + 3, none⟩ = some vb ∧ wr.cell? ⟨b, off + k * 5 + 4, none⟩ = some (.int .i64 (p.long : Int)) := by
  have hb : b < w.heap.size := h.lt (by have := h.le; omega)
  have f : ∀ j, j < 5 → wr.cell? ⟨b, off + k * 5 + j, none⟩ = (pcCells p vb)[j]? := fun j hj => by
    have e := flat_get ps k hkl j hj
    rw [hq] at e
    have hx : (pcCells p vb).length = 5 := rfl
    rw [List.getElem?_eq_getElem (l := pcCells p vb) (by omega)] at e ⊢
    rw [Nat.add_assoc, hk.cell (p := ⟨b, off + (k * 5 + j), none⟩) hb]
    exact h.olds _ _ e
  exact ⟨f 0 (by decide), f 1 (by decide), f 2 (by decide), f 3 (by decide), f 4 (by decide)⟩
theorem l_facts {w wr : World} {ao : Option Addr} {b off cap : Nat} {ps : List RP} (h : Came w 5 ao b off ps.length cap (rflat ps)) (hk : Kept w.heap.size w wr) {k : Nat} (hkl : k < ps.length) {p : Pc} {sb sa : ByteArray} (hq : ps[k] = (p, sb, sa)) :
    wr.cell? ⟨b, off + k * 5, none⟩ = some (.int .i64 (p.number : Int)) ∧ wr.cell? ⟨b, off + k * 5 + 1, none⟩ = some (.int .i64 (p.form : Int)) ∧ wr.cell? ⟨b, off + k * 5 + 2, none⟩ = some (.int .u64 (p.num : Int)) ∧
    wr.cell? ⟨b, off + k * 5 + 3, none⟩ = some (.string sb) ∧ wr.cell? ⟨b, off + k * 5 + 4, none⟩ = some (.string sa) := by
  have hb : b < w.heap.size := h.lt (by have := h.le; omega)
  have f : ∀ j, j < 5 → wr.cell? ⟨b, off + k * 5 + j, none⟩ = (rpCells (p, sb, sa))[j]? := fun j hj => by
    have e := rflat_get ps k hkl j hj
    rw [hq] at e
    have hx : (rpCells (p, sb, sa)).length = 5 := rfl
    rw [List.getElem?_eq_getElem (l := rpCells (p, sb, sa)) (by omega)] at e ⊢
    rw [Nat.add_assoc, hk.cell (p := ⟨b, off + (k * 5 + j), none⟩) hb]
    exact h.olds _ _ e
  exact ⟨f 0 (by decide), f 1 (by decide), f 2 (by decide), f 3 (by decide), f 4 (by decide)⟩

theorem total_mem {l : List Pc} {p : Pc} (h : p ∈ l) : p.long ≤ total l := by
  induction l with
  | nil => cases h
  | cons x l ih =>
    simp only [total]
    rcases List.mem_cons.1 h with rfl | h
    · omega
    · have := ih h; omega

set_option maxHeartbeats 4000000 in
set_option maxRecDepth 100000 in
theorem pcs_small (a1 : Option Addr) (c1 : Nat) (bs : List Nat) (w : World) (ha : ReadsOr w (.slice a1 bs.length c1) bs) (hlen : bs.length ≤ 500) (hL : Laid w) :
    Calls Tryd.prog 4 #[.slice a1 bs.length c1] w fun e w' => e = .returned (.bool true) ∧ Kept w.heap.size w w' := by
  have hcv := conv_or ha
  have hstr : Spells (str bs) bs := str_spells ha.lt
  go_enter Tryd.func4, Tryd.ntmps4
  go_wp2_with fail
  refine (rnext_un hstr (by omega)).mono ?_
  rintro e w1 ⟨sb, sa, rfl, hsb, hsa, hk1⟩
  have ha1 := ha.kept hk1
  have hL1 := hL.kept hk1
  have K1 : Kept w1.heap.size w1 (w1.alloc (.cells #[.int .i64 ((nx0 (nextv bs)).number : Int), .int .i64 ((nx0 (nextv bs)).form : Int), .int .u64 ((nx0 (nextv bs)).num : Int), .string sb, .string sa] 43)) := Kept.alloc (Kept.refl _ _) (Nat.le_refl _) _
  have hlong : (nx0 (nextv bs)).long ≤ 100000 := nx0_long ha.lt (by omega)
  unfold rpAgg
  go_wp2_with fail
  refine (wnext_un (ha1.kept K1) (by omega)).mono ?_
  rintro e w2 ⟨pa, pn, pc, rfl, hpr, hk2⟩
  have r0 : w2.cell? ⟨w1.heap.size, 0, none⟩ = some (.int .i64 ((nx0 (nextv bs)).number : Int)) := by rw [hk2.cell (by simp)]; simp
  have r1 : w2.cell? ⟨w1.heap.size, 1, none⟩ = some (.int .i64 ((nx0 (nextv bs)).form : Int)) := by rw [hk2.cell (by simp)]; simp
  have r2 : w2.cell? ⟨w1.heap.size, 2, none⟩ = some (.int .u64 ((nx0 (nextv bs)).num : Int)) := by rw [hk2.cell (by simp)]; simp
  have r3 : w2.cell? ⟨w1.heap.size, 3, none⟩ = some (.string sb) := by rw [hk2.cell (by simp)]; simp
  have r4 : w2.cell? ⟨w1.heap.size, 4, none⟩ = some (.string sa) := by rw [hk2.cell (by simp)]; simp
  have k12 : Kept w.heap.size w w2 := hk1.trans ((K1.trans (hk2.mono K1.size)).mono hk1.size)
  have hlt2 : w1.heap.size < w2.heap.size := by have := hk2.size; simp at this; omega
  have K2 : Kept w2.heap.size w2 (w2.alloc (.cells #[.int .i64 ((nx0 (nextv bs)).number : Int), .int .i64 ((nx0 (nextv bs)).form : Int), .int .u64 ((nx0 (nextv bs)).num : Int), .slice pa pn pc, .int .i64 ((nx0 (nextv bs)).long : Int)] 47)) := Kept.alloc (Kept.refl _ _) (Nat.le_refl _) _
  clear hk2 K1
  unfold pcAgg
  go_wp2_with fail
  refine (bare_o (nextv bs) _ ((hL.kept k12).kept K2)).mono ?_
  rintro e w3 ⟨rfl, hk3⟩
  have q0 : w3.cell? ⟨w2.heap.size, 0, none⟩ = some (.int .i64 ((nx0 (nextv bs)).number : Int)) := by rw [hk3.cell (by simp)]; simp
  have q1 : w3.cell? ⟨w2.heap.size, 1, none⟩ = some (.int .i64 ((nx0 (nextv bs)).form : Int)) := by rw [hk3.cell (by simp)]; simp
  have q2 : w3.cell? ⟨w2.heap.size, 2, none⟩ = some (.int .u64 ((nx0 (nextv bs)).num : Int)) := by rw [hk3.cell (by simp)]; simp
  have q3 : w3.cell? ⟨w2.heap.size, 3, none⟩ = some (.slice pa pn pc) := by rw [hk3.cell (by simp)]; simp
  have q4 : w3.cell? ⟨w2.heap.size, 4, none⟩ = some (.int .i64 ((nx0 (nextv bs)).long : Int)) := by rw [hk3.cell (by simp)]; simp
  have k23 : Kept w2.heap.size w2 w3 := K2.trans (hk3.mono K2.size)
  have s0 := (k23.cell (p := ⟨w1.heap.size, 0, none⟩) hlt2).trans r0
  have s1 := (k23.cell (p := ⟨w1.heap.size, 1, none⟩) hlt2).trans r1
  have s2 := (k23.cell (p := ⟨w1.heap.size, 2, none⟩) hlt2).trans r2
  have s3 := (k23.cell (p := ⟨w1.heap.size, 3, none⟩) hlt2).trans r3
  have s4 := (k23.cell (p := ⟨w1.heap.size, 4, none⟩) hlt2).trans r4
  have hpr3 := hpr.kept k23
  have k13 : Kept w.heap.size w w3 := k12.trans (k23.mono k12.size)
  have HSAME : Hid (Calls Tryd.prog 22 #[pcAgg (nx0 (nextv bs)) (.slice pa pn pc), rpAgg (nx0 (nextv bs), sb, sa)] w3 fun e w' => e = .returned (.bool true) ∧ Kept w3.heap.size w3 w') := same_any _ _ _ _ _ _ _ hpr3 hsb hsa hlong
  clear r0 r1 r2 r3 r4 hk3 K2 hpr hpr3 k23 hk1 ha1 hL1 hsb hsa hlong k12 hlt2
  go_wp2_with fail
  refine HSAME.out.mono ?_
  rintro e w4 ⟨rfl, hk4⟩
  have k14 : Kept w.heap.size w w4 := k13.trans (hk4.mono k13.size)
  have hcv4 := conv_or (ha.kept k14)
  clear q0 q1 q2 q3 q4 s0 s1 s2 s3 s4 HSAME hk4 k13
  go_wp2_with fail
  refine (rsplit_un hstr (by omega)).mono ?_
  rintro e w5 ⟨ls, lo, lb, lf, lc, hls, rfl, hlC, hlO, hk5⟩
  have k15 : Kept w.heap.size w w5 := k14.trans (hk5.mono k14.size)
  clear hcv4
  go_wp2_with fail
  refine (wsplit_un (ha.kept k15) (by omega)).mono ?_
  rintro e w6 ⟨ms, mo, mb, mf, mc, hms, rfl, hmC, hmO, hk6⟩
  have k16 : Kept w.heap.size w w6 := k15.trans (hk6.mono k15.size)
  have hlC6 := Came.kept hlC hk6 (fun hp => hlC.lt hp)
  have hfst : ms.map Prod.fst = ls.map Prod.fst := hms.trans hls.symm
  have hlen2 : ms.length = ls.length := by simpa using congrArg List.length hfst
  have hlsn : ls.length ≤ 500 := by
    have h1 : ls.length = (pl0 (pieces bs)).length := by rw [← hls]; simp
    rcases hp : pieces bs with _ | l
    · rw [hp] at h1; rw [h1]; exact Nat.zero_le _
    · have := (pieces_total ha.lt hp).2
      rw [hp] at h1; rw [h1]; show l.length ≤ 500; omega
  clear hk5 hlC k14 hk6 k15
  go_wp2_with fail
  refine (bare_o (pieces bs) _ (hL.kept k16)).mono ?_
  rintro e w7 ⟨rfl, hk7⟩
  have HK7 : Hid (Kept w6.heap.size w6 w7) := hk7
  have k17 : Kept w.heap.size w w7 := k16.trans (hk7.mono k16.size)
  have HFST : Hid (ms.map Prod.fst = ls.map Prod.fst) := hfst
  have HMC : Hid (Came w6 5 mo mb mf ms.length mc (flat ms)) := hmC
  have HLC : Hid (Came w6 5 lo lb lf ls.length lc (rflat ls)) := hlC6
  have HMO : Hid (∀ q ∈ ms, PcOk w6 mb q) := hmO
  have HLO : Hid (∀ q ∈ ls, RpOk q) := hlO
  have HLEN : Hid (ms.length = ls.length) := hlen2
  have HLONG : Hid (∀ q ∈ ls, q.1.long ≤ 100000) := fun q hq => by
    have h1 : q.1 ∈ pl0 (pieces bs) := by rw [← hls]; exact List.mem_map.2 ⟨q, hq, rfl⟩
    rcases hp : pieces bs with _ | l
    · rw [hp] at h1; cases h1
    · rw [hp] at h1
      have h2 := total_mem (show q.1 ∈ l from h1)
      have := (pieces_total ha.lt hp).1
      omega
  have HHA : Hid _ := ha
  clear hmO hlO
  clear hk7 hfst hms hls k16 hmC hlC6 ha hL hcv hstr
  go_wp2
  go_loopw [9] (fun vi wr => ∃ i : Nat, i ≤ ls.length ∧ vi = .int .i64 i ∧ Kept w7.heap.size w7 wr) (fun vi _ => ls.length - (intOf vi).toNat)
  case atStart => exact ⟨0, Nat.zero_le _, rfl, Kept.refl _ _⟩
  case round =>
    obtain ⟨i, hi, rfl, hkr⟩ := hrel
    have k6r : Kept w6.heap.size w6 wr := HK7.out.trans (hkr.mono HK7.out.size)
    by_cases hlt : i < ls.length
    · have hltm : i < ms.length := by rw [HLEN.out]; exact hlt
      obtain ⟨p, vb, hq⟩ : ∃ p vb, ms[i] = (p, vb) := ⟨_, _, rfl⟩
      obtain ⟨p', sb', sa', hq'⟩ : ∃ p sb sa, ls[i] = (p, sb, sa) := ⟨_, _, _, rfl⟩
      have hpp : p' = p := by
        have e : (ms.map Prod.fst)[i]? = (ls.map Prod.fst)[i]? := by rw [HFST.out]
        simp [hlt, hltm, hq, hq'] at e
        exact e.symm
      subst hpp
      have hPO := HMO.out (p', vb) (by rw [← hq]; exact List.getElem_mem hltm)
      have hRO := HLO.out (p', sb', sa') (by rw [← hq']; exact List.getElem_mem hlt)
      have hLG := HLONG.out (p', sb', sa') (by rw [← hq']; exact List.getElem_mem hlt)
      obtain ⟨va, vc, hvb⟩ := hPO.shape
      simp only at hvb
      subst hvb
      have HSM : Hid (∀ W : World, Kept wr.heap.size wr W → Calls Tryd.prog 22 #[pcAgg p' (.slice va p'.bytes.length vc), rpAgg (p', sb', sa')] W fun e w' => e = .returned (.bool true) ∧ Kept W.heap.size W w') := fun W hW =>
        same_any _ _ _ _ _ _ _ ((hPO.reads.kept k6r).kept hW) hRO.1 hRO.2 hLG
      obtain ⟨m0, m1, m2, m3, m4⟩ := m_facts HMC.out k6r hltm hq
      obtain ⟨l0, l1, l2, l3, l4⟩ := l_facts HLC.out k6r hlt hq'
      have hma : mo = some ⟨mb, mf, none⟩ := HMC.out.addr (by have := HMC.out.le; omega)
      have hla : lo = some ⟨lb, lf, none⟩ := HLC.out.addr (by have := HLC.out.le; omega)
      have hlc := HLC.out.le
      have hmc : ls.length ≤ mc := by have := HMC.out.le; rw [HLEN.out] at this; exact this
      subst hma hla
      have HKR : Hid (Kept w7.heap.size w7 wr) := hkr
      clear hPO hRO hLG hq hq' k6r hltm hlen2 hkr
      unfold pcAgg rpAgg at HSM
      go_wp2
      go_region_with (go_at_call 22; refine (HSM.out _ (Kept.drew (Kept.refl _ _))).mono ?_; rintro e w8 ⟨rfl, hk8⟩)
      all_goals
        have HK8 : Hid (Kept w7.heap.size w7 w8) := HKR.out.trans ((kept_drew _ hk8).mono HKR.out.size)
        clear hk8
        go_wp2
        refine ⟨⟨i + 1, by omega, by go_num, HK8.out⟩, ?_⟩
        simp [intOf]; omega
    · have HKR : Hid (Kept w.heap.size w wr) := k17.trans (hkr.mono k17.size)
      clear k6r hkr k17
      go_wp2
      go_ret
      exact ⟨rfl, HKR.out⟩
end Go.Proofs.YticgkjcdhmejcaaDoor
