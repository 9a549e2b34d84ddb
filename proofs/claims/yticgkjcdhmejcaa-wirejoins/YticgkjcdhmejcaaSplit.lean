/- Split: all pieces. -/
import Derived.Test.YticgkjcdhmejcaaPcs
namespace Go.Proofs.Yticgkjcdhmejcaa
open Go.RowKit
set_option linter.unusedVariables false

theorem info_pc : (Try.prog.info? 39).map (fun i => (i.zero, i.size, i.bytes)) = some (some (.agg #[.int .i64 0, .int .i64 0, .int .u64 0, .slice none 0 0, .int .i64 0]), 5, 56) := by kernel_rfl

def slen : Value → Nat
  | .slice _ n _ => n
  | _ => 0

def SplitPost (w : World) (bs : List Nat) (e : Ending) (w' : World) : Prop :=
  (pieces bs = none ∧ e = .returned (.tuple #[.slice none 0 0, .iface 57 (.int .i64 3)]) ∧ Kept w.heap.size w w') ∨
  ∃ (ps : List (Pc × Value)) (ao : Option Addr) (b off cap : Nat), pieces bs = some (ps.map Prod.fst) ∧ e = .returned (.tuple #[.slice ao ps.length cap, .nilIface]) ∧
    Came w' 5 ao b off ps.length cap (flat ps) ∧ (∀ q ∈ ps, PcOk w' b q) ∧ Kept w.heap.size w w'

/-- What holds at each round's head. -/
structure SplitRel (w : World) (bs : List Nat) (vb vp : Value) (wr : World) (x : Option Addr) (cx : Nat) (rest : List Nat) (ps : List (Pc × Value)) (ao : Option Addr) (b off cap : Nat) : Prop where
  vb : vb = .slice x rest.length cx
  vp : vp = .slice ao ps.length cap
  reads : ReadsOr w (.slice x rest.length cx) rest
  pcs : pieces bs = (pieces rest).map fun l => ps.map Prod.fst ++ l
  came : Came wr 5 ao b off ps.length cap (flat ps)
  own : 0 < cap → w.heap.size ≤ b
  ok : ∀ q ∈ ps, PcOk wr b q
  many : ps.length + rest.length ≤ bs.length
  kept : Kept w.heap.size w wr

theorem came5_nil (w : World) (ao : Option Addr) (b off : Nat) : Came w 5 ao b off 0 0 (flat []) :=
  ⟨Nat.le_refl _, fun h => absurd h (by decide), fun h => absurd h (by decide), rfl, fun j u h => by simp [flat] at h, fun j h => by simp at h⟩

theorem rel_start {w : World} {x : Option Addr} {cx : Nat} {bs : List Nat} (h : ReadsOr w (.slice x bs.length cx) bs) : SplitRel w bs (.slice x bs.length cx) (.slice none 0 0) w x cx bs [] none 0 0 0 :=
  ⟨rfl, rfl, h, by simp, came5_nil _ _ _ _, fun h => absurd h (by decide), fun q h => (by cases h), by simp, Kept.refl _ _⟩

/-- Ahead of an append: the block of the array, whatever it is, is apart from all pieces. -/
theorem rel_ready {w wr w1 W : World} {bs : List Nat} {v0 vp : Value} {x : Option Addr} {cx : Nat} {rest : List Nat} {ps : List (Pc × Value)} {ao : Option Addr} {b off cap : Nat} {p : Pc} {a : Option Addr} {c : Nat}
    (h : SplitRel w bs v0 vp wr x cx rest ps ao b off cap) (k1 : Kept wr.heap.size wr w1) (k2 : Kept w1.heap.size w1 W) (hr : ReadsOr w1 (.slice a p.bytes.length c) p.bytes) (hn : New wr.heap.size (.slice a p.bytes.length c)) :
    ∃ b0, Came W 5 ao b0 off ps.length cap (flat ps) ∧ (∀ q ∈ ps, PcOk W b0 q) ∧ PcOk W b0 (p, .slice a p.bytes.length c) ∧ (cap = 0 ∨ w.heap.size ≤ b0) ∧ b0 ≠ w1.heap.size := by
  have k12 : Kept wr.heap.size wr W := k1.trans (k2.mono k1.size)
  rcases Nat.eq_zero_or_pos cap with h0 | h0
  · subst h0
    have hl : ps.length = 0 := by have := h.came.le; omega
    have hps : ps = [] := List.eq_nil_of_length_eq_zero hl
    subst hps
    refine ⟨W.heap.size + 1, came5_nil _ _ _ _, fun q hq => (by cases hq), ⟨hr.kept k2, fun a' n c' e => ?_, ⟨_, _, rfl⟩⟩, .inl rfl, by have := k2.size; omega⟩
    have := (hr.kept k2).block ⟨_, _, rfl⟩ a' n c' e
    omega
  · have hb := h.came.lt h0
    refine ⟨b, Came.kept h.came k12 (fun _ => hb), fun q hq => (h.ok q hq).kept k12, ⟨hr.kept k2, fun a' n c' e => ?_, ⟨_, _, rfl⟩⟩, .inr (h.own h0), by have := k1.size; omega⟩
    have := hn a' n c' e
    omega

theorem full_of {w : World} {a : Option Addr} {cap : Nat} {bs : List Nat} (h : ReadsOr w (.slice a bs.length cap) bs) (h0 : bs ≠ []) (hlen : bs.length ≤ 1000000) : ∃ b off, a = some ⟨b, off, none⟩ ∧ Full w b off cap bs := by
  rcases h with ⟨rfl, _⟩ | ⟨b, off, cap', h, h1, hb, h2, h3⟩
  · exact absurd rfl h0
  · have hs := h.shape
    injection hs with e1 _ e3
    subst e1 e3
    exact ⟨b, off, rfl, h, h1, hb, h2, h3, hlen⟩

theorem src_pc (W : World) (s : Nat) (hs : W.heap.size = s) (c0 c1 c2 : Int) (a : Option Addr) (n c : Nat) (c4 : Int) :
    Src Try.prog 5 35 (.slice (some ⟨s, 0, none⟩) 1 1) 1 [.int .i64 c0, .int .i64 c1, .int .u64 c2, .slice a n c, .int .i64 c4]
      (W.alloc (.cells #[.int .i64 c0, .int .i64 c1, .int .u64 c2, .slice a n c, .int .i64 c4] 39)) := by
  subst hs
  refine Src.ofSlice _ Try.underlying35 ⟨W.heap.size, 0, none⟩ 1 1 _ rfl (fun j u hj => ?_) (fun u hu => ?_)
  · rw [Addr.add_lit, Nat.zero_add, World.cell?_alloc_new]
    simpa using hj
  · simp at hu
    rcases hu with rfl | rfl | rfl | rfl | rfl <;> rfl

/-- What a round makes of what holds. -/
theorem rel_step {w wr w1 W w2 : World} {bs : List Nat} {v0 vp v' vb' : Value} {x x' : Option Addr} {cx cx' : Nat} {rest : List Nat} {ps : List (Pc × Value)} {ao : Option Addr} {b b0 off cap r : Nat} {p : Pc} {a : Option Addr} {c : Nat} {e : TypeId}
    (h : SplitRel w bs v0 vp wr x cx rest ps ao b off cap) (k1 : Kept wr.heap.size wr w1) (k2 : Kept w1.heap.size w1 W) (hC : Came W 5 ao b0 off ps.length cap (flat ps)) (hok : ∀ q ∈ ps, PcOk W b0 q) (hp : PcOk W b0 (p, .slice a p.bytes.length c))
    (hb0 : cap = 0 ∨ w.heap.size ≤ b0) (hup : Upon W e 5 ao b0 off ps.length cap (flat ps) w2 v' 1 (pcCells p (.slice a p.bytes.length c)) r) (hr0 : rest ≠ []) (hn : nextv rest = some p)
    (hvb : vb' = .slice x' (rest.drop p.long).length cx') (hrd : ReadsOr w vb' (rest.drop p.long)) :
    ∃ x cx rest ps ao b off cap, SplitRel w bs vb' v' w2 x cx rest ps ao b off cap := by
  have hbd := nextv_bound h.reads.lt hn
  have kW : Kept w.heap.size w W := h.kept.trans ((k1.trans (k2.mono k1.size)).mono h.kept.size)
  obtain ⟨ao', b', off', cap', rfl, hC', hb'⟩ := came_next hC hup (by decide)
  refine ⟨x', cx', rest.drop p.long, ps ++ [(p, .slice a p.bytes.length c)], ao', b', off', cap', hvb, by simp, by rw [← hvb]; exact hrd, ?_, ?_, ?_, ?_, ?_, ?_⟩
  · rw [h.pcs, pieces_cons h.reads.lt hr0 hn, Option.map_map]
    congr 1
    funext l
    simp
  · rw [flat_app]; simpa using hC'
  · intro hc'
    rcases hb' with ⟨rfl, rfl⟩ | hb'
    · rcases hb0 with rfl | hb0
      · omega
      · exact hb0
    · have := kW.size; omega
  · intro q hq
    have hbb : b' = b0 ∨ W.heap.size ≤ b' := by
      rcases hb' with ⟨h1, _⟩ | h1
      · exact .inl h1
      · exact .inr h1
    rcases List.mem_append.1 hq with h1 | h1
    · exact (hok q h1).upon hup hbb
    · simp at h1
      subst h1
      exact hp.upon hup hbb
  · have := h.many
    simp; omega
  · exact kW.trans (Kept.upon hup kW.size hb0)

set_option maxHeartbeats 2000000 in
set_option maxRecDepth 100000 in
theorem split_any {w : World} {x0 : Option Addr} {cx0 : Nat} {bs : List Nat} (h : ReadsOr w (.slice x0 bs.length cx0) bs) (hlen : bs.length ≤ 100000) :
    Calls Try.prog 13 #[.slice x0 bs.length cx0] w (SplitPost w bs) := by
  obtain ⟨i0, hi, hz0, hz1, hz2⟩ := info_parts info_pc
  go_enter Try.func13, Try.ntmps13
  go_wp2
  go_loopw [0, 4] (fun vb vp wr => ∃ x cx rest ps ao b off cap, SplitRel w bs vb vp wr x cx rest ps ao b off cap) (fun vb _ _ => slen vb)
  case atStart => exact ⟨_, _, _, _, _, _, _, _, rel_start h⟩
  case round =>
    obtain ⟨x, cx, rest, ps, ao, b, off, cap, R⟩ := hrel
    have hvb := R.vb
    have hvp := R.vp
    subst hvb hvp
    have hmany := R.many
    by_cases hr0 : rest = []
    · subst hr0
      have hE : Hid (pieces bs = some (ps.map Prod.fst)) := by
        show pieces bs = _
        rw [R.pcs, pieces_nil]; simp
      have hl0 : ([] : List Nat).length = 0 := rfl
      go_wp2
      go_ret2
      exact .inr ⟨ps, ao, b, off, cap, hE.out, rfl, R.came, R.ok, R.kept⟩
    · have hpos : (0 : Int) < (rest.length : Int) := by have := List.length_pos_iff.2 hr0; omega
      go_wp2_with fail
      refine (next_any (R.reads.kept R.kept) (by omega)).mono ?_
      rintro e w1 (⟨hnv, rfl, hk⟩ | ⟨p, a, c, hnv, rfl, hr, hn, hk⟩)
      · have HP : Hid (pieces bs = none) := by
          show pieces bs = none
          rw [R.pcs, pieces_bad hr0 hnv]; rfl
        have HK : Kept w.heap.size w w1 := R.kept.trans (hk.mono R.kept.size)
        clear hnv hk R
        unfold noPiece
        go_wp2
        go_ret2
        exact .inl ⟨HP.out, rfl, HK.alloc (by have := HK.size; omega) _⟩
      · have HN : Hid (nextv rest = some p) := hnv
        clear hnv
        unfold pcRes
        have hbd := nextv_bound R.reads.lt HN.out
        have hl1 := hbd.2.1
        have hl0 := hbd.1
        obtain ⟨bb, oo, rfl, hF⟩ := full_of R.reads hr0 (by omega)
        have hfit := hF.fits
        have hmost := hF.most
        unfold maxLen at hmost
        obtain ⟨b0, hC, hok, hp, hb0, hne⟩ := rel_ready R hk (alloc2 w1 (.cells #[.int .i64 (p.number : Int), .int .i64 (p.form : Int), .int .u64 (p.num : Int), .slice a p.bytes.length c, .int .i64 (p.long : Int)] 39)
          (.cells #[.int .i64 (p.number : Int), .int .i64 (p.form : Int), .int .u64 (p.num : Int), .slice a p.bytes.length c, .int .i64 (p.long : Int)] 39)) hr hn
        clear hbd
        go_wp2_with (at_builtin; refine wpList_append_upon _ rfl (.tmp 18) (.tmp 20) 35 35 rfl hC i0 _ 56 Try.underlying35 hi hz0 hz1 hz2 rfl rfl (Upon.start hC) _ 1 _ rfl (src_pc _ _ (by simp) _ _ _ _ _ _ _) (by unfold maxLen; omega) (by omega) ?_)
        intro v' w2 hup
        have hc4 : w2.cell? ⟨w1.heap.size, 4, none⟩ = some (.int .i64 (p.long : Int)) := by
          rw [hup.old (by simp; omega) (fun j hj => by rintro ⟨h1, _⟩; exact hne h1.symm)]
          simp
        have STEP := fun (x' : Option Addr) (cx' : Nat) (vb' : Value) => rel_step (x' := x') (cx' := cx') (vb' := vb') R hk (alloc2 _ _ _) hC hok hp hb0 hup hr0 HN.out
        have HS : Hid _ := STEP
        clear STEP hup hC hok hp R hr hn hk
        by_cases hcl : cx = p.long
        · have hz : rest.length - p.long = 0 := by omega
          have HZ : Hid (rest.length - p.long = 0) := hz
          clear hz
          go_wp2
          refine ⟨HS.out (some ⟨bb, oo, none⟩) 0 _ (by rw [List.length_drop]) (.inl ⟨by rw [List.drop_eq_nil_iff]; omega, _, _, by rw [HZ.out]⟩), ?_⟩
          simp only [slen]; omega
        · go_wp2
          refine ⟨HS.out (some ⟨bb, oo + p.long, none⟩) (cx - p.long) _ (by rw [List.length_drop]) (hF.behind hl1), ?_⟩
          simp only [slen]; omega
end Go.Proofs.Yticgkjcdhmejcaa
