/- The walk of WireJoins. -/
import Derived.Test.YticgkjcdhmejcaaSplit
import Derived.Test.YticgkjcdhmejcaaFact
import Derived.Test.YticgkjcdhmejcaaStr
namespace Go.Proofs.Yticgkjcdhmejcaa
open Go.RowKit
set_option linter.unusedVariables false

theorem Came.pc {w : World} {ao : Option Addr} {b off cap : Nat} {ps : List (Pc × Value)} (h : Came w 5 ao b off ps.length cap (flat ps)) {k : Nat} (hk : k < ps.length) {j : Nat} (hj : j < 5) :
    w.cell? ⟨b, off + (k * 5 + j), none⟩ = (pcCells (ps[k]).1 (ps[k]).2)[j]? := by
  have e := flat_get ps k hk j hj
  have hx : (pcCells (ps[k]).1 (ps[k]).2).length = 5 := rfl
  rw [List.getElem?_eq_getElem (l := pcCells (ps[k]).1 (ps[k]).2) (by omega)] at e ⊢
  exact h.olds _ _ e

/-- A piece's cells, in a later world. -/
theorem pc_facts {w wr : World} {ao : Option Addr} {b off cap : Nat} {ps : List (Pc × Value)} (h : Came w 5 ao b off ps.length cap (flat ps)) (hk : Kept w.heap.size w wr) {k : Nat} (hkl : k < ps.length) {p : Pc} {vb : Value} (hq : ps[k] = (p, vb)) :
    wr.cell? ⟨b, off + k * 5, none⟩ = some (.int .i64 (p.number : Int)) ∧ wr.cell? ⟨b, off + k * 5 + 1, none⟩ = some (.int .i64 (p.form : Int)) ∧ wr.cell? ⟨b, off + k * 5 + 2, none⟩ = some (.int .u64 (p.num : Int)) ∧
    wr.cell? ⟨b, off + k * 5 + 3, none⟩ = some vb ∧ wr.cell? ⟨b, off + k * 5 + 4, none⟩ = some (.int .i64 (p.long : Int)) := by
  have hb : b < w.heap.size := h.lt (by have := h.le; omega)
  have f : ∀ j, j < 5 → wr.cell? ⟨b, off + k * 5 + j, none⟩ = (pcCells p vb)[j]? := fun j hj => by
    rw [Nat.add_assoc, hk.cell (p := ⟨b, off + (k * 5 + j), none⟩) hb, Came.pc h hkl hj, hq]
  exact ⟨f 0 (by decide), f 1 (by decide), f 2 (by decide), f 3 (by decide), f 4 (by decide)⟩

theorem fst_left {ls xs ys : List (Pc × Value)} (h : ls.map Prod.fst = xs.map Prod.fst ++ ys.map Prod.fst) {k : Nat} (h1 : k < ls.length) (h2 : k < xs.length) : (xs[k]).1 = (ls[k]).1 := by
  have : (ls.map Prod.fst)[k]? = (xs.map Prod.fst ++ ys.map Prod.fst)[k]? := by rw [h]
  rw [List.getElem?_append_left (by simpa using h2)] at this
  simp [h1, h2] at this
  exact this.symm
theorem fst_right {ls xs ys : List (Pc × Value)} (h : ls.map Prod.fst = xs.map Prod.fst ++ ys.map Prod.fst) {k : Nat} (h1 : k < ls.length) (h2 : ¬ k < xs.length) (h3 : k - xs.length < ys.length) : (ys[k - xs.length]).1 = (ls[k]).1 := by
  have : (ls.map Prod.fst)[k]? = (xs.map Prod.fst ++ ys.map Prod.fst)[k]? := by rw [h]
  rw [List.getElem?_append_right (by simp; omega)] at this
  simp [h1, h3] at this
  exact this.symm

theorem total_app (a : List Pc) (p : Pc) : total (a ++ [p]) = total a + p.long := by
  induction a with
  | nil => simp [total]
  | cons x a ih => simp only [List.cons_append, total, ih]; omega
theorem total_le (a b : List Pc) : total a ≤ total (a ++ b) := by
  induction a with
  | nil => simp [total]
  | cons x a ih => simp only [List.cons_append, total]; omega

/-- How much the first pieces have. -/
def upto (ls : List (Pc × Value)) (k : Nat) : Nat := total ((ls.map Prod.fst).take k)
theorem upto_succ {ls : List (Pc × Value)} {k : Nat} (h : k < ls.length) : upto ls (k + 1) = upto ls k + (ls[k]).1.long := by
  unfold upto
  rw [List.take_succ_eq_append_getElem (by simpa using h), total_app]
  simp
theorem upto_all {ls : List (Pc × Value)} {k : Nat} (h : ls.length ≤ k) : upto ls k = total (ls.map Prod.fst) := by
  unfold upto; rw [List.take_of_length_le (by simpa using h)]
theorem upto_le (ls : List (Pc × Value)) (k : Nat) : upto ls k ≤ total (ls.map Prod.fst) := by
  unfold upto
  have := total_le ((ls.map Prod.fst).take k) ((ls.map Prod.fst).drop k)
  rwa [List.take_append_drop] at this

theorem split_at {w : World} {x0 : Option Addr} {cx0 n : Nat} {bs : List Nat} (hn : bs.length = n) (h : ReadsOr w (.slice x0 n cx0) bs) (hlen : n ≤ 100000) :
    Calls Try.prog 13 #[.slice x0 n cx0] w (SplitPost w bs) := by subst hn; exact split_any h hlen

set_option maxHeartbeats 4000000 in
set_option maxRecDepth 100000 in
theorem joins_small (a1 a2 : Option Addr) (c1 c2 : Nat) (xa bs : List Nat) (w : World) (ha : ReadsOr w (.slice a1 xa.length c1) xa) (hb : ReadsOr w (.slice a2 bs.length c2) bs) (hlen : xa.length + bs.length ≤ 500) :
    Calls Try.prog 4 #[.slice a1 xa.length c1, .slice a2 bs.length c2] w fun e w' => e = .returned (.bool true) ∧ Kept w.heap.size w w' := by
  obtain ⟨i0, hi, hz0, hz1, hz2⟩ := info_parts info_u8
  have hal := ha.lt
  have hbl := hb.lt
  go_enter Try.func4, Try.ntmps4
  go_wp2_with fail
  refine (fact_any _).mono ?_
  rintro e w1 ⟨rfl, hk1⟩
  go_wp2_with fail
  refine (split_any (ha.kept hk1) (by omega)).mono ?_
  rintro e w2 (⟨hna, rfl, hk2⟩ | ⟨xs, xo, xb, xf, xc, hsa, rfl, hxC, hxO, hk2⟩)
  · have k12 : Kept w.heap.size w w2 := hk1.trans (hk2.mono hk1.size)
    clear hna
    go_wp2_with fail
    refine (split_any (hb.kept k12) (by omega)).mono ?_
    rintro e w3 (⟨hnb, rfl, hk3⟩ | ⟨ys, yo, yb, yf, yc, hsb, rfl, hyC, hyO, hk3⟩)
    · have HK : Kept w.heap.size w w3 := k12.trans (hk3.mono k12.size)
      clear hnb
      go_wp2
      go_ret
      exact ⟨rfl, HK⟩
    · have HK : Kept w.heap.size w w3 := k12.trans (hk3.mono k12.size)
      clear hsb
      go_wp2
      go_ret
      exact ⟨rfl, HK⟩
  · have k12 : Kept w.heap.size w w2 := hk1.trans (hk2.mono hk1.size)
    have HSA : Hid (pieces xa = some (xs.map Prod.fst)) := hsa
    clear hsa
    go_wp2_with fail
    refine (split_any (hb.kept k12) (by omega)).mono ?_
    rintro e w3 (⟨hnb, rfl, hk3⟩ | ⟨ys, yo, yb, yf, yc, hsb, rfl, hyC, hyO, hk3⟩)
    · have HK : Kept w.heap.size w w3 := k12.trans (hk3.mono k12.size)
      clear hnb
      go_wp2
      go_ret
      exact ⟨rfl, HK⟩
    · have k13 : Kept w.heap.size w w3 := k12.trans (hk3.mono k12.size)
      have HSB : Hid (pieces bs = some (ys.map Prod.fst)) := hsb
      clear hsb
      go_wp2_with (at_builtin; refine wpList_append_upon _ rfl (.tmp 40) (.tmp 41) 23 23 rfl (came_nil _ (some ⟨w3.heap.size, 0, none⟩) w3.heap.size 0) i0 (.int .u8 0) 1 Try.underlying23 hi hz0 hz1 hz2 rfl rfl (Upon.start (came_nil _ (some ⟨w3.heap.size, 0, none⟩) w3.heap.size 0)) _ xa.length (cellsOf xa) rfl ?hsrc (by unfold maxLen; omega) (by omega) ?_)
      case hsrc => exact ((ha.kept k13).kept (kept1 _ _)).src Try.underlying23
      intro v1 w4 hup1
      have hk4 : Kept (w3.heap.size + 1) (w3.alloc (.cells #[] 5)) w4 := Kept.upon hup1 (by simp) (.inl rfl)
      have hb4 : ReadsOr w4 (.slice a2 bs.length c2) bs := ((hb.kept k13).kept (kept1 _ _)).kept (by simpa using hk4)
      go_wp2_with (at_builtin; refine wpList_append_upon _ rfl (.tmp 42) (.tmp 43) 23 23 rfl (came_nil _ (some ⟨w3.heap.size, 0, none⟩) w3.heap.size 0) i0 (.int .u8 0) 1 Try.underlying23 hi hz0 hz1 hz2 rfl rfl hup1 _ bs.length (cellsOf bs) rfl (hb4.src Try.underlying23) (by unfold maxLen; omega) (by omega) ?_)
      intro v2 w5 hup2
      have hk5 : Kept (w3.heap.size + 1) (w3.alloc (.cells #[] 5)) w5 := Kept.upon hup2 (by simp) (.inl rfl)
      have k35 : Kept w3.heap.size w3 w5 := (kept1 _ _).trans (hk5.mono (by omega))
      have habl : ∀ x ∈ xa ++ bs, x < 256 := fun x hx => by
        rcases List.mem_append.1 hx with h | h
        · exact hal x h
        · exact hbl x h
      obtain ⟨⟨av, cv, hv2⟩, hr2⟩ := upon_or (bs := xa ++ bs) (by rw [cellsOf_append]; exact hup2) habl
      have HV : Hid (v2 = .slice av (xa ++ bs).length cv) := hv2
      rw [hv2] at hr2
      have hpab : pieces (xa ++ bs) = some (xs.map Prod.fst ++ ys.map Prod.fst) := pieces_app hal hbl HSA.out HSB.out
      have HP : Hid (pieces (xa ++ bs) = some (xs.map Prod.fst ++ ys.map Prod.fst)) := hpab
      clear hup1 hup2 hk4 hb4 hk5 hpab habl
      rw [hv2]
      clear hv2 HV
      have hxl := (pieces_total hal HSA.out).2
      have hyl := (pieces_total hbl HSB.out).2
      simp only [List.length_map] at hxl hyl
      go_wp2_with fail
      refine (split_at (n := xa.length + bs.length) (bs := xa ++ bs) (by simp) (by rw [List.length_append] at hr2; exact hr2) (by omega)).mono ?_
      rintro e w6 (⟨hnl, rfl, hk6⟩ | ⟨ls, lo, lb, lf, lc, hsl, rfl, hlC, hlO, hk6⟩)
      · rw [HP.out] at hnl; cases hnl
      · have hls : ls.map Prod.fst = xs.map Prod.fst ++ ys.map Prod.fst := by
          rw [HP.out] at hsl; injection hsl with hsl; exact hsl.symm
        have HL : Hid (ls.map Prod.fst = xs.map Prod.fst ++ ys.map Prod.fst) := hls
        have hll : ls.length = xs.length + ys.length := by have := congrArg List.length hls; simpa using this
        have hne : ((ls.length : Int) != (xs.length : Int) + (ys.length : Int)) = false := by simp; omega
        have hl1000 : ls.length ≤ 1000 := by omega
        have HLL : Hid (ls.length = xs.length + ys.length) := hll
        have k16 : Kept w.heap.size w w6 := (k13.trans (k35.mono k13.size)).trans (hk6.mono (Nat.le_trans k13.size k35.size))
        have hT : Hid (total (ls.map Prod.fst) = xa.length + bs.length) := by
          show total _ = _
          have := (pieces_total (a := xa ++ bs) (fun x hx => by
            rcases List.mem_append.1 hx with h | h
            · exact hal x h
            · exact hbl x h) hsl).1
          rw [this]; simp
        clear hls hsl hll HP hr2
        go_wp2_with fail
        go_loopw [11, 12] (fun n i wr => ∃ k T : Nat, k ≤ ls.length ∧ i = .int .i64 k ∧ n = .int .i64 (T : Int) ∧ Hid (T = upto ls k) ∧ Kept w6.heap.size w6 wr) (fun _ i _ => ls.length - (intOf i).toNat)
        case atStart => exact ⟨0, 0, Nat.zero_le _, rfl, rfl, by show 0 = upto ls 0; rfl, Kept.refl _ _⟩
        case round =>
          obtain ⟨k, T, hk, rfl, rfl, hTk, hkw⟩ := hrel
          by_cases hlt : k < ls.length
          · have hlc : 0 < lc := by have := hlC.le; omega
            have hlo := hlC.addr hlc
            subst hlo
            have hlO1 := hlO _ (List.getElem_mem hlt)
            obtain ⟨⟨p, vb⟩, hq⟩ : ∃ q, q = ls[k] := ⟨_, rfl⟩
            rw [← hq] at hlO1
            obtain ⟨la, lcc, hlsh⟩ := hlO1.shape
            have hlr := hlO1.reads.kept hkw
            simp only at hlsh hlr
            obtain ⟨l0, l1, l2, l3, l4⟩ := pc_facts hlC hkw hlt hq.symm
            rw [hlsh] at l3 hlr
            have hTn : Hid (T + p.long = upto ls (k + 1)) := by
              show T + p.long = _
              rw [upto_succ hlt, ← hq, hTk.out]
            have hsum : (T : Int) + (p.long : Int) ≤ 500 := by
              have := upto_le ls (k + 1)
              have h1 := hTn.out
              have h2 := hT.out
              omega
            by_cases hkx : k < xs.length
            · have hxc : 0 < xc := by have := hxC.le; omega
              have hxo := hxC.addr hxc
              subst hxo
              have hxO1 := hxO _ (List.getElem_mem hkx)
              obtain ⟨⟨p', vb'⟩, hq'⟩ : ∃ q, q = xs[k] := ⟨_, rfl⟩
              have hpp : p' = p := by have := fst_left HL.out hlt hkx; rw [← hq, ← hq'] at this; exact this
              subst hpp
              rw [← hq'] at hxO1
              have k26 : Kept w2.heap.size w2 wr := ((hk3.trans (k35.mono hk3.size)).trans (hk6.mono (Nat.le_trans hk3.size k35.size))).trans (hkw.mono (Nat.le_trans (Nat.le_trans hk3.size k35.size) hk6.size))
              obtain ⟨xa', xcc, hxsh⟩ := hxO1.shape
              have hxr := hxO1.reads.kept k26
              simp only at hxsh hxr
              obtain ⟨x0, x1, x2, x3, x4⟩ := pc_facts hxC k26 hkx hq'.symm
              rw [hxsh] at x3 hxr
              have hxb : xb < wr.heap.size := Nat.lt_of_lt_of_le (hxC.lt hxc) k26.size
              have hlb : lb < wr.heap.size := Nat.lt_of_lt_of_le (hlC.lt hlc) hkw.size
              clear hlC hxC hyC hlO hxO hyO hlO1 hxO1 hq hq' hlsh hxsh k26 ha hb hal hbl hk1 hk2 hk3 k12 k13 k35 HSA HSB hi hz0 hz1 hz2 hk6
              have cvl : ∀ o1 o2, (convert 23 9 (.slice la p'.bytes.length lcc)).run Try.prog ((wr.alloc o1).alloc o2) = .ok (.string (str p'.bytes)) ((wr.alloc o1).alloc o2) := fun o1 o2 => conv_or (hlr.kept (alloc2 _ _ _))
              have cvx : ∀ o1 o2, (convert 23 9 (.slice xa' p'.bytes.length xcc)).run Try.prog ((wr.alloc o1).alloc o2) = .ok (.string (str p'.bytes)) ((wr.alloc o1).alloc o2) := fun o1 o2 => conv_or (hxr.kept (alloc2 _ _ _))
              clear hlr hxr
              have HKW : ∀ o1 o2, Kept w6.heap.size w6 ((wr.alloc o1).alloc o2) := fun o1 o2 => hkw.trans ((alloc2 wr o1 o2).mono hkw.size)
              go_wp2
              go_roundw
              case rel => exact ⟨k + 1, T + p'.long, by omega, by go_num, by go_num, hTn, HKW _ _⟩
              case measure => simp [intOf]; omega
            · have hky : k - xs.length < ys.length := by have := HLL.out; omega
              have hyc : 0 < yc := by have := hyC.le; omega
              have hyo := hyC.addr hyc
              subst hyo
              have hyO1 := hyO _ (List.getElem_mem hky)
              obtain ⟨⟨p', vb'⟩, hq'⟩ : ∃ q, q = ys[k - xs.length] := ⟨_, rfl⟩
              have hpp : p' = p := by have := fst_right HL.out hlt hkx hky; rw [← hq, ← hq'] at this; exact this
              subst hpp
              rw [← hq'] at hyO1
              have k36 : Kept w3.heap.size w3 wr := (k35.trans (hk6.mono k35.size)).trans (hkw.mono (Nat.le_trans k35.size hk6.size))
              obtain ⟨xa', xcc, hxsh⟩ := hyO1.shape
              have hxr := hyO1.reads.kept k36
              simp only at hxsh hxr
              obtain ⟨x0, x1, x2, x3, x4⟩ := pc_facts hyC k36 hky hq'.symm
              rw [hxsh] at x3 hxr
              have hxb : yb < wr.heap.size := Nat.lt_of_lt_of_le (hyC.lt hyc) k36.size
              have hlb : lb < wr.heap.size := Nat.lt_of_lt_of_le (hlC.lt hlc) hkw.size
              have hkx' : (xs.length : Int) ≤ (k : Int) := by omega
              clear hlC hxC hyC hlO hxO hyO hlO1 hyO1 hq hq' hlsh hxsh k36 ha hb hal hbl hk1 hk2 hk3 k12 k13 k35 HSA HSB hi hz0 hz1 hz2 hk6
              have cvl : ∀ o1 o2, (convert 23 9 (.slice la p'.bytes.length lcc)).run Try.prog ((wr.alloc o1).alloc o2) = .ok (.string (str p'.bytes)) ((wr.alloc o1).alloc o2) := fun o1 o2 => conv_or (hlr.kept (alloc2 _ _ _))
              have cvx : ∀ o1 o2, (convert 23 9 (.slice xa' p'.bytes.length xcc)).run Try.prog ((wr.alloc o1).alloc o2) = .ok (.string (str p'.bytes)) ((wr.alloc o1).alloc o2) := fun o1 o2 => conv_or (hxr.kept (alloc2 _ _ _))
              clear hlr hxr
              have HKW : ∀ o1 o2, Kept w6.heap.size w6 ((wr.alloc o1).alloc o2) := fun o1 o2 => hkw.trans ((alloc2 wr o1 o2).mono hkw.size)
              go_wp2
              go_roundw
              case rel => exact ⟨k + 1, T + p'.long, by omega, by go_num, by go_num, hTn, HKW _ _⟩
              case measure => simp [intOf]; omega
          · have hkl : k = ls.length := by omega
            have hfin : Hid (T = xa.length + bs.length) := by
              show T = _
              rw [hTk.out, upto_all (by omega), hT.out]
            have HK : Kept w.heap.size w wr := k16.trans (hkw.mono k16.size)
            have hTe : ((T : Int) == (xa.length : Int) + (bs.length : Int)) = true := by have := hfin.out; simp; omega
            clear hlC hxC hyC hlO hxO hyO ha hb hal hbl hk1 hk2 hk3 k12 k13 k35 HSA HSB hi hz0 hz1 hz2 hk6 hkl
            go_wp2
            go_ret
            exact ⟨rfl, HK⟩
end Go.Proofs.Yticgkjcdhmejcaa
