/- The document's own answer: all pieces. -/
import Derived.Test.YticgkjcdhmejcaaDoorRefNextAll
import Derived.Test.YticgkjcdhmejcaaDoorSplit
namespace Go.Proofs.YticgkjcdhmejcaaDoor
open Go.RowKit
set_option linter.unusedVariables false

theorem info_rpc : (Tryd.prog.info? 43).map (fun i => (i.zero, i.size, i.bytes)) = some (some (.agg #[.int .i64 0, .int .i64 0, .int .u64 0, .string ⟨#[]⟩, .string ⟨#[]⟩]), 5, 56) := by kernel_rfl

abbrev RP := Pc × ByteArray × ByteArray
def rpCells (q : RP) : List Value := [.int .i64 (q.1.number : Int), .int .i64 (q.1.form : Int), .int .u64 (q.1.num : Int), .string q.2.1, .string q.2.2]
def rflat : List RP → List Value
  | [] => []
  | q :: l => rpCells q ++ rflat l
theorem rflat_app (l : List RP) (q : RP) : rflat (l ++ [q]) = rflat l ++ rpCells q := by
  induction l with
  | nil => simp [rflat]
  | cons x l ih => simp [rflat, ih]
def RpOk (q : RP) : Prop := Spells q.2.1 q.1.bytes ∧ q.2.2.size = q.1.long

def RSplitPost (w : World) (bs : List Nat) (e : Ending) (w' : World) : Prop :=
  (pieces bs = none ∧ e = .returned (.tuple #[.slice none 0 0, .int .i64 3]) ∧ Kept w.heap.size w w') ∨
  ∃ (ps : List RP) (ao : Option Addr) (b off cap : Nat), pieces bs = some (ps.map Prod.fst) ∧ e = .returned (.tuple #[.slice ao ps.length cap, .int .i64 0]) ∧
    Came w' 5 ao b off ps.length cap (rflat ps) ∧ (∀ q ∈ ps, RpOk q) ∧ Kept w.heap.size w w'

structure RRel (w : World) (bs : List Nat) (vs vp : Value) (wr : World) (s : ByteArray) (rest : List Nat) (ps : List RP) (ao : Option Addr) (b off cap : Nat) : Prop where
  vs : vs = .string s
  vp : vp = .slice ao ps.length cap
  sp : Spells s rest
  pcs : pieces bs = (pieces rest).map fun l => ps.map Prod.fst ++ l
  came : Came wr 5 ao b off ps.length cap (rflat ps)
  own : 0 < cap → w.heap.size ≤ b
  ok : ∀ q ∈ ps, RpOk q
  many : ps.length + rest.length ≤ bs.length
  kept : Kept w.heap.size w wr

theorem rcame_nil (w : World) (ao : Option Addr) (b off : Nat) : Came w 5 ao b off 0 0 (rflat []) :=
  ⟨Nat.le_refl _, fun h => absurd h (by decide), fun h => absurd h (by decide), rfl, fun j u h => by simp [rflat] at h, fun j h => by simp at h⟩
theorem rrel_start {w : World} {s : ByteArray} {bs : List Nat} (h : Spells s bs) : RRel w bs (.string s) (.slice none 0 0) w s bs [] none 0 0 0 :=
  ⟨rfl, rfl, h, by simp, rcame_nil _ _ _ _, fun h => absurd h (by decide), fun q h => (by cases h), by simp, Kept.refl _ _⟩

def strSize : Value → Nat
  | .string s => s.size
  | _ => 0

theorem src_rpc (W : World) (s : Nat) (hs : W.heap.size = s) (c0 c1 c2 : Int) (a b : ByteArray) :
    Src Tryd.prog 5 51 (.slice (some ⟨s, 0, none⟩) 1 1) 1 [.int .i64 c0, .int .i64 c1, .int .u64 c2, .string a, .string b]
      (W.alloc (.cells #[.int .i64 c0, .int .i64 c1, .int .u64 c2, .string a, .string b] 43)) := by
  subst hs
  refine Src.ofSlice _ Tryd.underlying51 ⟨W.heap.size, 0, none⟩ 1 1 _ rfl (fun j u hj => ?_) (fun u hu => ?_)
  · rw [Addr.add_lit, Nat.zero_add, World.cell?_alloc_new]
    simpa using hj
  · simp at hu
    rcases hu with rfl | rfl | rfl | rfl | rfl <;> rfl

/-- What a round makes of what holds. -/
theorem rrel_step {w wr W w2 : World} {bs : List Nat} {v0 vp v' : Value} {s s' sb sa : ByteArray} {rest : List Nat} {ps : List RP} {ao : Option Addr} {b b0 off cap r : Nat} {p : Pc} {e : TypeId}
    (h : RRel w bs v0 vp wr s rest ps ao b off cap) (k : Kept wr.heap.size wr W) (hC : Came W 5 ao b0 off ps.length cap (rflat ps)) (hb0 : cap = 0 ∨ w.heap.size ≤ b0)
    (hup : Upon W e 5 ao b0 off ps.length cap (rflat ps) w2 v' 1 (rpCells (p, sb, sa)) r) (hr0 : rest ≠ []) (hn : nextv rest = some p) (hb : Spells sb p.bytes) (ha : sa.size = p.long)
    (hs' : Spells s' (rest.drop p.long)) : ∃ s rest ps ao b off cap, RRel w bs (.string s') v' w2 s rest ps ao b off cap := by
  have hbd := nextv_bound h.sp.lt hn
  have kW : Kept w.heap.size w W := h.kept.trans (k.mono h.kept.size)
  obtain ⟨ao', b', off', cap', rfl, hC', hb'⟩ := came_next hC hup (by decide)
  refine ⟨s', rest.drop p.long, ps ++ [(p, sb, sa)], ao', b', off', cap', rfl, by simp, hs', ?_, ?_, ?_, ?_, ?_, ?_⟩
  · rw [h.pcs, pieces_cons h.sp.lt hr0 hn, Option.map_map]
    congr 1
    funext l
    simp
  · rw [rflat_app]; simpa using hC'
  · intro hc'
    rcases hb' with ⟨rfl, rfl⟩ | hb'
    · rcases hb0 with rfl | hb0
      · omega
      · exact hb0
    · have := kW.size; omega
  · intro q hq
    rcases List.mem_append.1 hq with h1 | h1
    · exact h.ok q h1
    · simp at h1
      subst h1
      exact ⟨hb, ha⟩
  · have := h.many
    simp; omega
  · exact kW.trans (Kept.upon hup kW.size hb0)

theorem rready {w wr W : World} {bs : List Nat} {v0 vp : Value} {s : ByteArray} {rest : List Nat} {ps : List RP} {ao : Option Addr} {b off cap B : Nat}
    (h : RRel w bs v0 vp wr s rest ps ao b off cap) (k : Kept wr.heap.size wr W) (hB : wr.heap.size ≤ B) (hW : B < W.heap.size) : ∃ b0, Came W 5 ao b0 off ps.length cap (rflat ps) ∧ (cap = 0 ∨ w.heap.size ≤ b0) ∧ b0 ≠ B := by
  rcases Nat.eq_zero_or_pos cap with h0 | h0
  · subst h0
    have hl : ps.length = 0 := by have := h.came.le; omega
    have hps : ps = [] := List.eq_nil_of_length_eq_zero hl
    subst hps
    exact ⟨W.heap.size + 1, rcame_nil _ _ _ _, .inl rfl, by omega⟩
  · have hb := h.came.lt h0
    exact ⟨b, Came.kept h.came k (fun _ => hb), .inr (h.own h0), by omega⟩

set_option maxHeartbeats 2000000 in
set_option maxRecDepth 100000 in
theorem rsplit_any {w : World} {s0 : ByteArray} {bs : List Nat} (h : Spells s0 bs) (hlen : bs.length ≤ 100000) :
    Calls Tryd.prog 23 #[.string s0] w (RSplitPost w bs) := by
  obtain ⟨i0, hi, hz0, hz1, hz2⟩ := info_parts info_rpc
  go_enter Tryd.func23, Tryd.ntmps23
  go_wp2
  go_loopw [0, 4] (fun vb vp wr => ∃ s rest ps ao b off cap, RRel w bs vb vp wr s rest ps ao b off cap) (fun vb _ _ => strSize vb)
  case atStart => exact ⟨_, _, _, _, _, _, _, rrel_start h⟩
  case round =>
    obtain ⟨s, rest, ps, ao, b, off, cap, R⟩ := hrel
    have hvb := R.vs
    have hvp := R.vp
    subst hvb hvp
    have hmany := R.many
    by_cases hr0 : rest = []
    · subst hr0
      have hE : Hid (pieces bs = some (ps.map Prod.fst)) := by
        show pieces bs = _
        rw [R.pcs, pieces_nil]; simp
      have hemp : s.toList.isEmpty = true := by rw [R.sp.empty]; rfl
      have HR : Hid _ := R
      clear R
      go_wp2
      go_ret2
      exact .inr ⟨ps, ao, b, off, cap, hE.out, rfl, HR.out.came, HR.out.ok, HR.out.kept⟩
    · have hemp : s.toList.isEmpty = false := by rw [R.sp.empty, decide_eq_false hr0]
      have hsz : s.size = rest.length := R.sp.size
      go_wp2_with fail
      refine (rnext_any _ R.sp (by omega)).mono ?_
      rintro e w1 (⟨hnv, rfl, hk⟩ | ⟨p, sb, sa, hnv, rfl, hsb, hsa, hk⟩)
      · have HP : Hid (pieces bs = none) := by
          show pieces bs = none
          rw [R.pcs, pieces_bad hr0 hnv]; rfl
        have HK : Kept w.heap.size w w1 := R.kept.trans (hk.mono R.kept.size)
        clear hnv hk R
        unfold rnoPiece
        go_wp2
        go_ret2
        exact .inl ⟨HP.out, rfl, HK.alloc (by have := HK.size; omega) _⟩
      · have HN : Hid (nextv rest = some p) := hnv
        clear hnv
        unfold rpcRes
        have hbd := nextv_bound R.sp.lt HN.out
        have hl1 : sa.size ≤ s.size := by rw [hsa, hsz]; exact hbd.2.1
        have hl0 : 1 ≤ sa.size := by rw [hsa]; exact hbd.1
        have hl2 : s.size ≤ 100000 := by omega
        have k2 := hk.trans ((alloc2 w1 (.cells #[.int .i64 (p.number : Int), .int .i64 (p.form : Int), .int .u64 (p.num : Int), .string sb, .string sa] 43)
          (.cells #[.int .i64 (p.number : Int), .int .i64 (p.form : Int), .int .u64 (p.num : Int), .string sb, .string sa] 43)).mono hk.size)
        obtain ⟨b0, hC, hb0, hne⟩ := rready (B := w1.heap.size) R k2 hk.size (by simp; omega)
        clear hbd
        go_wp2_with (at_builtin; refine wpList_append_upon _ rfl (.tmp 17) (.tmp 19) 51 51 rfl hC i0 _ 56 Tryd.underlying51 hi hz0 hz1 hz2 rfl rfl (Upon.start hC) _ 1 _ rfl (src_rpc _ _ (by simp) _ _ _ _ _) (by unfold maxLen; omega) (by omega) ?_)
        intro v' w2 hup
        have hc4 : w2.cell? ⟨w1.heap.size, 4, none⟩ = some (.string sa) := by
          rw [hup.old (by simp; omega) (fun j hj => by rintro ⟨h1, _⟩; exact hne h1.symm)]
          simp
        have HS : Hid (∀ s', Spells s' (rest.drop p.long) → ∃ s rest ps ao b off cap, RRel w bs (.string s') v' w2 s rest ps ao b off cap) := fun s' hs' => rrel_step R k2 hC hb0 hup hr0 HN.out hsb hsa hs'
        have HD : Hid (Spells (s.extract sa.size s.size) (rest.drop p.long)) := by
          show Spells (s.extract sa.size s.size) (rest.drop p.long)
          rw [← hsa]; exact R.sp.rest hl1
        have hes : (s.extract sa.size s.size).size = s.size - sa.size := by rw [ByteArray.size_extract]; omega
        clear hup hC R hk k2 hsb hsa hsz hb0 hne
        go_wp2
        refine ⟨HS.out _ HD.out, ?_⟩
        simp only [strSize]; omega
end Go.Proofs.YticgkjcdhmejcaaDoor
