/- strings.Builder: WriteString, Len, String. -/
import Derived.Test.YticgkjcdhmejcaaStrEq
import Derived.Test.YticgkjcdhmejcaaMem
import Derived.Lib.Builder
import Derived.Lib.AppendStr
import Derived.Lib.UnsafeStr
import Derived.Laws.Externs
import Derived.RegionTactic
import Derived.ChangeAlike
namespace Go.Proofs.Yticgkjcdhmejcaa
open Go.RowKit
set_option linter.unusedVariables false
set_option linter.unusedSimpArgs false

theorem info_bld : (Try.prog.info? 47).map (·.size) = some 2 := by kernel_rfl
theorem lies_bld : liesAt Try.prog Try.prog.depth 47 (2 / Try.prog.cellsOf 47) 0 47 1 = true := by kernel_rfl
theorem info_byte : (Try.prog.info? 5).map (fun i => (i.zero, i.size, i.bytes)) = some (some (.int .u8 0), 1, 1) := by kernel_rfl
theorem cells_byte : Try.prog.cellsOf 5 = 1 := by kernel_rfl

/-- A builder in block b (from B on) that holds the bytes xs; p: its address or nil; v: its buffer. -/
structure Bd (B b : Nat) (p v : Value) (xs : List Nat) (w : World) : Prop where
  lo : B ≤ b
  here : w.heap[b]? = some (.cells #[p, v] 47 (0, 0))
  own : w.ownsRow B 5 1 v xs.length (cellsOf xs)

/-- Rows of other types than bytes, but for block b, are as they were. -/
def Others (b : Nat) (w w' : World) : Prop := ∀ k cs t fr, w.heap[k]? = some (.cells cs t fr) → t ≠ 5 → k ≠ b → w'.heap[k]? = w.heap[k]?
theorem Others.refl (b : Nat) (w : World) : Others b w w := fun _ _ _ _ _ _ _ => rfl
theorem Others.trans {b : Nat} {w w1 w2 : World} (h : Others b w w1) (h' : Others b w1 w2) : Others b w w2 := fun k cs t fr hk ht hb => by
  have e := h k cs t fr hk ht hb
  rw [h' k cs t fr (by rw [e]; exact hk) ht hb, e]

theorem heap_lt {w : World} {k : Nat} {o : Obj} (h : w.heap[k]? = some o) : k < w.heap.size := by
  rcases Nat.lt_or_ge k w.heap.size with h1 | h1
  · exact h1
  · rw [Array.getElem?_eq_none h1] at h; cases h

theorem own_type {w : World} {B : Nat} {e : TypeId} {v : Value} {n : Nat} {xs : List Value} {k : Nat} {cs : Array Value} {t : TypeId} {fr : Nat × Nat} (h : w.ownsRow B e 1 v n xs) (hk : w.heap[k]? = some (.cells cs t fr)) (ht : t ≠ e) : some k ≠ v.ownBlock := by
  intro e1
  rcases h.2 with ⟨hv, _⟩ | ⟨g, cap, cur, hv, _, hg, _⟩
  · subst hv; cases e1
  · subst hv
    simp only [Value.ownBlock] at e1
    injection e1 with e1
    subst e1
    rw [hk] at hg
    injection hg with hg
    injection hg with _ hg _
    exact ht hg

theorem others_grown {w w' : World} {v : Value} {B b : Nat} {n : Nat} {xs : List Value} (h : w.ownsRow B 5 1 v n xs) (hg : w.grownBy w' v.ownBlock) : Others b w w' := fun k cs t fr hk ht _ => hg.block k (heap_lt hk) (own_type h hk ht)
theorem kept_grown {w w' : World} {v : Value} {B : Nat} {e : TypeId} {n : Nat} {xs : List Value} (h : w.ownsRow B e 1 v n xs) (hg : w.grownBy w' v.ownBlock) (hB : B ≤ w.heap.size) : Kept B w w' := by
  refine ⟨hg.os, hg.output, hg.size, fun k hk => hg.block k (by omega) ?_⟩
  intro e1
  rcases h.2 with ⟨hv, _⟩ | ⟨g, cap, cur, hv, hbg, _⟩
  · subst hv; cases e1
  · subst hv
    simp only [Value.ownBlock] at e1
    injection e1 with e1
    omega

theorem strCells_of {s : ByteArray} {ys : List Nat} (h : Spells s ys) : Lib.strCells s = cellsOf ys := by
  unfold Lib.strCells cellsOf
  rw [h.data, List.map_map]
  refine List.map_congr_left fun x hx => ?_
  have := h.lt x hx
  simp
  omega

set_option maxHeartbeats 1000000 in
set_option maxRecDepth 100000 in
theorem copy_used (b : Nat) (w : World) (h0 : w.cell? ⟨b, 0, none⟩ = some (.pointer (some ⟨b, 0, none⟩))) :
    Calls Try.prog 24 #[.pointer (some ⟨b, 0, none⟩)] w fun e w' => e = .returned (.tuple #[]) ∧ w' = w := by
  obtain ⟨j, hj, _⟩ := Option.map_eq_some_iff.1 info_bld
  go_enter Try.func24, Try.ntmps24
  go_wp2
  rw [Lib.run_neq_ptr_same w _ Try.underlying45 hj]
  go_wp2
  go_end0
  exact ⟨rfl, rfl⟩

set_option maxHeartbeats 1000000 in
set_option maxRecDepth 100000 in
theorem copy_fresh (b : Nat) (w : World) (h0 : w.cell? ⟨b, 0, none⟩ = some (.pointer none)) (hsh : w.shape? b = some (47, 2)) (hfz : w.frozen? ⟨b, 0, none⟩ = false) :
    Calls Try.prog 24 #[.pointer (some ⟨b, 0, none⟩)] w fun e w' => e = .returned (.tuple #[]) ∧ w' = w.setCell ⟨b, 0, none⟩ (.pointer (some ⟨b, 0, none⟩)) := by
  obtain ⟨j, hj, hjs⟩ := Option.map_eq_some_iff.1 info_bld
  go_enter Try.func24, Try.ntmps24
  go_wp2
  rw [Lib.run_to_unsafe w ⟨b, 0, none⟩ Try.underlying45 Try.underlying75 hj (by rw [hjs]; decide) hsh (Nat.zero_lt_succ 1)]
  simp only [Result.andThen]
  rw [Oper.upon_value]
  go_wp2
  rw [run_callFunc_extern Try.func39 (by kernel_rfl) (by kernel_rfl) (by kernel_rfl) (e := Extern.AbiNoEscape.same) (by kernel_rfl)]
  rw [Lib.run_noEscape]
  simp only [Result.andThen]
  rw [Oper.upon_value]
  go_wp2
  rw [Lib.run_from_unsafe w ⟨b, 0, none⟩ Try.underlying75 Try.underlying45 hj hsh lies_bld]
  simp only [Result.andThen]
  rw [Oper.upon_value]
  go_wp2
  go_end0
  exact ⟨rfl, rfl⟩

def selfPtr (b : Nat) : Value := .pointer (some ⟨b, 0, none⟩)

theorem Bd.cell0 {B b : Nat} {p v : Value} {xs : List Nat} {w : World} (h : Bd B b p v xs w) : w.cell? ⟨b, 0, none⟩ = some p := by rw [Lib.cell_of_heap h.here]; rfl
theorem Bd.cell1 {B b : Nat} {p v : Value} {xs : List Nat} {w : World} (h : Bd B b p v xs w) : w.cell? ⟨b, 1, none⟩ = some v := by rw [Lib.cell_of_heap h.here]; rfl
theorem Bd.ne {B b : Nat} {p v : Value} {xs : List Nat} {w : World} (h : Bd B b p v xs w) : some b ≠ v.ownBlock := own_type h.own h.here (by decide)

/-- Another row than the one that was written is as it was. -/
theorem Bd.grown {B b : Nat} {p v : Value} {xs : List Nat} {w w' : World} {row : Option Nat} (h : Bd B b p v xs w) (hg : w.grownBy w' row) (h1 : some b ≠ row) (h2 : v.ownBlock = none ∨ v.ownBlock ≠ row) : Bd B b p v xs w' :=
  ⟨h.lo, by rw [hg.block b (heap_lt h.here) h1]; exact h.here, h.own.kept hg h2⟩

theorem setCell_grown (w : World) (b o : Nat) (v : Value) : w.grownBy (w.setCell ⟨b, o, none⟩ v) (some b) :=
  ⟨rfl, rfl, rfl, by simp [World.setCell], fun k _ hk => by
    have hne : b ≠ k := fun e => hk (by rw [e])
    simp [World.setCell, Array.getElem?_modify, hne]⟩

theorem copy_any {B b : Nat} {p v : Value} {xs : List Nat} {w : World} (h : Bd B b p v xs w) (hp : p = .pointer none ∨ p = selfPtr b) :
    Calls Try.prog 24 #[.pointer (some ⟨b, 0, none⟩)] w fun e w' => e = .returned (.tuple #[]) ∧ Bd B b (selfPtr b) v xs w' ∧ Kept B w w' ∧ Others b w w' ∧ w.heap.size ≤ w'.heap.size := by
  rcases hp with rfl | rfl
  · refine (copy_fresh b w h.cell0 (by simp [World.shape?, h.here]) (by simp [World.frozen?, h.here])).mono ?_
    rintro e w' ⟨rfl, rfl⟩
    have hg := setCell_grown w b 0 (.pointer (some ⟨b, 0, none⟩))
    refine ⟨rfl, ⟨h.lo, ?_, h.own.kept hg (.inr (fun e => h.ne e.symm))⟩, Kept.setCell (Kept.refl _ _) h.lo _, fun k cs t fr hk _ hb => hg.block k (heap_lt hk) (fun e => hb (by injection e)), by simp [World.setCell]⟩
    simp [World.setCell, Array.getElem?_modify, h.here, selfPtr]
  · refine (copy_used b w h.cell0).mono ?_
    rintro e w' ⟨rfl, rfl⟩
    exact ⟨rfl, h, Kept.refl _ _, Others.refl _ _, Nat.le_refl _⟩

set_option maxHeartbeats 1000000 in
set_option maxRecDepth 100000 in
theorem write_any {B b : Nat} {p v : Value} {xs ys : List Nat} {w : World} (s : ByteArray) (h : Bd B b p v xs w) (hp : p = .pointer none ∨ p = selfPtr b) (hs : Spells s ys) (hl : xs.length + s.size ≤ 100000) (hB : B ≤ w.heap.size) :
    Calls Try.prog 16 #[.pointer (some ⟨b, 0, none⟩), .string s] w fun e w' => e = .returned (.tuple #[.int .i64 (s.size : Int), .nilIface]) ∧ ∃ v', Bd B b (selfPtr b) v' (xs ++ ys) w' ∧ Kept B w w' ∧ Others b w w' ∧ w.heap.size ≤ w'.heap.size := by
  obtain ⟨i0, hi, hz0, hz1, hz2⟩ := info_parts info_byte
  go_enter Try.func16, Try.ntmps16
  go_wp2_with fail
  refine (copy_any h hp).mono ?_
  rintro e w1 ⟨rfl, h1, hk1, ho1, hs1⟩
  have c0 := h1.cell0
  have c1 := h1.cell1
  have hown := h1.own
  have hne := h1.ne
  unfold selfPtr at *
  go_wp2_with (at_builtin; refine Lib.wpList_append_own_string _ rfl _ _ 23 9 rfl B 5 i0 Try.underlying23 Try.underlying9 hi hz0 hz1 hz2 _ _ _ rfl hown s rfl ?c3 ?c4 ?c5 ?_)
  case c3 => unfold maxLen; omega
  case c4 => omega
  case c5 => omega
  intro v' w2 hown' hgrow _
  have hb2 : w2.heap[b]? = some (.cells #[.pointer (some ⟨b, 0, none⟩), v] 47 (0, 0)) := by
    rw [hgrow.block b (heap_lt h1.here) hne]; exact h1.here
  have d0 : w2.cell? ⟨b, 0, none⟩ = some (.pointer (some ⟨b, 0, none⟩)) := by rw [Lib.cell_of_heap hb2]; rfl
  have d1 : w2.cell? ⟨b, 1, none⟩ = some v := by rw [Lib.cell_of_heap hb2]; rfl
  have f1 : w2.frozen? ⟨b, 1, none⟩ = false := Lib.frozen_of_heap hb2 1
  have hg2 := setCell_grown w2 b 1 v'
  have hlen2 : xs.length + s.size = (xs ++ ys).length := by rw [List.length_append, hs.size]
  have hOwn : w2.ownsRow B 5 1 v' (xs ++ ys).length (cellsOf (xs ++ ys)) := by
    rw [cellsOf_append, ← strCells_of hs, ← hlen2]; exact hown'
  have HBD : Hid (Bd B b (.pointer (some ⟨b, 0, none⟩)) v' (xs ++ ys) (w2.setCell ⟨b, 1, none⟩ v')) := by
    refine ⟨h1.lo, ?_, hOwn.kept hg2 (.inr (fun e => own_type hOwn hb2 (by decide) e.symm))⟩
    simp [World.setCell, Array.getElem?_modify, hb2]
  have HK : Hid (Kept B w (w2.setCell ⟨b, 1, none⟩ v')) := Kept.setCell (hk1.trans (kept_grown hown hgrow (by omega))) h1.lo _
  have HO : Hid (Others b w (w2.setCell ⟨b, 1, none⟩ v')) := (ho1.trans (others_grown hown hgrow)).trans (fun k cs t fr hk _ hb => hg2.block k (heap_lt hk) (fun e => hb (by injection e)))
  have HSZ : Hid (w.heap.size ≤ (w2.setCell ⟨b, 1, none⟩ v').heap.size) := by
    show w.heap.size ≤ _
    have := hgrow.size
    simp [World.setCell]; omega
  obtain ⟨ao, n', cap, rfl⟩ : ∃ ao n' cap, v' = .slice ao n' cap := by
    rcases hown'.2 with ⟨hv, _⟩ | ⟨g, cap, cur, hv, _⟩
    · exact ⟨_, _, _, hv⟩
    · exact ⟨_, _, _, hv⟩
  clear hown hown' hOwn hgrow hg2 hk1 ho1 h1 hne c0 c1 hlen2
  go_wp2
  go_ret2
  exact ⟨rfl, _, HBD.out, HK.out, HO.out, HSZ.out⟩

set_option maxHeartbeats 1000000 in
theorem len_any {B b : Nat} {p v : Value} {xs : List Nat} {w : World} (h : Bd B b p v xs w) :
    Calls Try.prog 17 #[.pointer (some ⟨b, 0, none⟩)] w fun e w' => e = .returned (.int .i64 (xs.length : Int)) ∧ w' = w := by
  obtain ⟨ao, cap, rfl⟩ : ∃ ao cap, v = .slice ao xs.length cap := by
    rcases h.own.2 with ⟨hv, h0⟩ | ⟨g, cap, cur, hv, _⟩
    · exact ⟨none, 0, by rw [hv, h0]⟩
    · exact ⟨_, _, hv⟩
  have c1 := h.cell1
  clear h
  go_enter Try.func17, Try.ntmps17
  go_wp2
  go_ret
  exact ⟨rfl, rfl⟩

theorem freeze_grown (w : World) (g n : Nat) : w.grownBy (w.freeze ⟨g, 0, none⟩ n) (some g) := by
  refine ⟨?_, ?_, ?_, ?_, fun k _ hk => ?_⟩
  all_goals unfold World.freeze; split
  all_goals try rfl
  all_goals try simp
  have hne : g ≠ k := fun e => hk (by rw [e])
  simp [Array.getElem?_modify, hne]

set_option maxHeartbeats 1000000 in
set_option maxRecDepth 100000 in
theorem string_any {B b : Nat} {p v : Value} {xs : List Nat} {w : World} (h : Bd B b p v xs w) (h0 : xs ≠ []) (hx : ∀ x ∈ xs, x < 256) (hB : B ≤ w.heap.size) :
    Calls Try.prog 18 #[.pointer (some ⟨b, 0, none⟩)] w fun e w' => e = .returned (.string (str xs)) ∧ Kept B w w' ∧ Others b w w' := by
  have hl0 : xs.length ≠ 0 := by simpa using h0
  obtain ⟨g, cap, cur, rfl, hbg, hg, hnc, hcm, hcs, htake⟩ : ∃ g cap cur, v = .slice (some ⟨g, 0, none⟩) xs.length cap ∧ B ≤ g ∧ w.heap[g]? = some (.cells cur 5 (0, 0)) ∧ xs.length ≤ cap ∧ cap ≤ maxLen ∧ cur.size = cap * 1 ∧ cur.toList.take (xs.length * 1) = cellsOf xs := by
    rcases h.own.2 with ⟨_, hz⟩ | ⟨g, cap, cur, hv, r⟩
    · exact absurd hz hl0
    · exact ⟨g, cap, cur, hv, r⟩
  have c1 : w.drew.cell? ⟨b, 1, none⟩ = some (.slice (some ⟨g, 0, none⟩) xs.length cap) := h.cell1
  have hs := str_spells hx
  have hll : ((str xs).data.toList).length = xs.length := by rw [Array.length_toList]; exact hs.size
  have hSD : (Builtin.unsafeSliceData_ #[23] 64 #[.slice (some ⟨g, 0, none⟩) xs.length cap]).run Try.prog w.drew = .ok (.pointer (some ⟨g, 0, none⟩)) w.drew :=
    Lib.run_unsafeSliceData_row _ _ _ _ _ _ (by omega)
  have hUS : (Builtin.unsafeString_ #[64, 3] 9 #[.pointer (some ⟨g, 0, none⟩), .int .i64 (xs.length : Int)]).run Try.prog w.drew = .ok (.string (str xs)) (w.drew.freeze ⟨g, 0, none⟩ xs.length) := by
    have := Lib.run_unsafeString_row (P := Try.prog) w.drew 64 3 9 5 Try.underlying64 cells_byte g cur.size (by have hg' : w.drew.heap[g]? = some (.cells cur 5 (0, 0)) := hg; simp [World.shape?, hg']) (str xs).data.toList (by intro e; rw [e] at hll; exact hl0 hll.symm) (by rw [hll]; omega) (by rw [hll]; unfold maxLen at hcm; omega) (fun j x hj => by
      have hjl : j < xs.length := by rw [← hll]; exact (List.getElem?_eq_some_iff.1 hj).1
      have e1 : (cellsOf xs)[j]? = some (.int .u8 (x.toNat : Int)) := by
        rw [← strCells_of hs, Lib.strCells, List.getElem?_map, hj]; rfl
      rw [Addr.add_lit, Nat.zero_add]
      show w.cell? ⟨g, j, none⟩ = _
      rw [Lib.cell_of_heap hg, ← e1, ← htake, List.getElem?_take]
      simp [hjl])
    rw [hll] at this
    exact this
  have HK : Hid (Kept B w (w.drew.freeze ⟨g, 0, none⟩ xs.length)) := by
    have hg2 := freeze_grown w.drew g xs.length
    exact ⟨hg2.os, hg2.output, hg2.size, fun k hk => hg2.block k (by show k < w.heap.size; omega) (fun e => by injection e with e; omega)⟩
  have HO : Hid (Others b w (w.drew.freeze ⟨g, 0, none⟩ xs.length)) := fun k cs t fr hk ht _ => by
    have hg2 := freeze_grown w.drew g xs.length
    refine hg2.block k (heap_lt hk) (fun e => ?_)
    injection e with e
    subst e
    rw [hk] at hg
    injection hg with hg
    injection hg with _ hg _
    exact ht hg
  clear h hx hs hll htake hg hcs hcm
  go_enter Try.func18, Try.ntmps18
  go_wp2
  go_region
  all_goals
    go_wp2
    go_ret
    exact ⟨rfl, HK.out, HO.out⟩
end Go.Proofs.Yticgkjcdhmejcaa
