/- Memory: what stays as it was; lists of bytes as cells. No program. -/
import Derived.WalkKit
import Derived.ProofKit
import Derived.Deep.Upon
namespace Go.Proofs.YticgkjcdhmejcaaDoor
open Go.RowKit

/-- Below block B the world is as it was. -/
structure Kept (B : Nat) (w w' : World) : Prop where
  os : w'.os = w.os
  output : w'.output = w.output
  size : w.heap.size ≤ w'.heap.size
  block : ∀ k, k < B → w'.heap[k]? = w.heap[k]?

theorem Kept.refl (B : Nat) (w : World) : Kept B w w := ⟨rfl, rfl, Nat.le_refl _, fun _ _ => rfl⟩
theorem Kept.trans {B : Nat} {a b c : World} (h : Kept B a b) (k : Kept B b c) : Kept B a c :=
  ⟨k.os.trans h.os, k.output.trans h.output, Nat.le_trans h.size k.size, fun i hi => (k.block i hi).trans (h.block i hi)⟩
theorem Kept.mono {B B' : Nat} {w w' : World} (h : Kept B w w') (hB : B' ≤ B) : Kept B' w w' := ⟨h.os, h.output, h.size, fun k hk => h.block k (by omega)⟩
theorem Kept.drew {B : Nat} {a w : World} (h : Kept B a w) : Kept B a w.drew := ⟨h.os, h.output, h.size, h.block⟩
theorem Kept.alloc {B : Nat} {a w : World} (h : Kept B a w) (hB : B ≤ w.heap.size) (o : Obj) : Kept B a (w.alloc o) :=
  h.trans ⟨rfl, rfl, by simp, fun k hk => Below.heap_alloc _ _ _ (by omega)⟩
theorem Kept.setCell {B : Nat} {a w : World} (h : Kept B a w) {p : Addr} (hp : B ≤ p.block) (u : Value) : Kept B a (w.setCell p u) :=
  h.trans ⟨rfl, rfl, by simp [World.setCell], fun k hk => Below.heap_setCell _ _ _ _ (by omega)⟩
theorem Kept.below {B : Nat} {a w : World} (h : Below B a w) : Kept B a w := ⟨h.os, h.output, h.size, h.block⟩
theorem Kept.cell {B : Nat} {w w' : World} (h : Kept B w w') {p : Addr} (hp : p.block < B) : w'.cell? p = w.cell? p := World.cell?_of_block (h.block _ hp)
theorem Kept.frozen {B : Nat} {w w' : World} (h : Kept B w w') {p : Addr} (hp : p.block < B) : w'.frozen? p = w.frozen? p := World.frozen?_of_block (h.block _ hp)
theorem Kept.frame {W w' : World} (h : Kept W.heap.size W w') (may : MemPlace → Prop) : W.keptBut w' may := by
  refine ⟨h.os, h.output, fun i hi => ?_⟩
  rw [h.block i hi]
  split <;> simp_all
theorem Kept.same {W w' : World} (h : Kept W.heap.size W w') {p : MemPlace} (hp : p.block < W.heap.size) : W.sameAt w' p := by
  cases p with
  | cell b o => exact World.cell?_of_block (w := W) (h.block b hp)
  | map b => exact h.block b hp
theorem Kept.trod {H : Type} {enc : TypeId × Value → H} {P : Program} {t : TypeId} (hl : laidOutB P = true) (hr : P.readableRec t = true) (hrow : t < P.types.size) {W W' : World} {v : Value} {d : DataW H} {ps : List MemPlace}
    (h : DataW.Trod enc P W 0 (fun _ => true) true t v d ps) (hb : Kept W.heap.size W W') (hlt : ∀ x ∈ ps, x.block < W.heap.size) :
    DataW.Trod enc P W' 0 (fun b => decide (b < W.heap.size)) true t v d ps :=
  WideElems.Trod_stays hl hr hrow h (fun x hx => hb.same (hlt x hx)) (fun x hx => by simpa using hlt x hx)

/-- What stays behind appends to a slice whose array lies from B on (or that has none). -/
theorem Kept.upon {B : Nat} {W w : World} {e : TypeId} {size : Nat} {ao : Option Addr} {b off len cap m r : Nat} {olds ks : List Value} {v : Value}
    (h : Upon W e size ao b off len cap olds w v m ks r) (hB : B ≤ W.heap.size) (hb : cap = 0 ∨ B ≤ b) : Kept B W w := by
  refine ⟨h.kept.1, h.kept.2.1, h.kept.size, fun k hk => ?_⟩
  refine h.kept.block (by omega) ?_
  rintro p ⟨j, hj, rfl⟩
  rcases hb with rfl | hb
  · have := h.rFit; simp at this; omega
  · show b ≠ k; omega

/-- Bytes as cells. -/
def cellsOf (bs : List Nat) : List Value := bs.map fun x => .int .u8 ((x : Nat) : Int)
theorem cellsOf_length (bs : List Nat) : (cellsOf bs).length = bs.length := by simp [cellsOf]
theorem cellsOf_append (a b : List Nat) : cellsOf (a ++ b) = cellsOf a ++ cellsOf b := by simp [cellsOf]
theorem cellsOf_get {bs : List Nat} {j : Nat} (h : j < bs.length) : (cellsOf bs)[j]? = some (.int .u8 ((bs.getD j 0 : Nat) : Int)) := by
  simp [cellsOf, h]
theorem cellsOf_one (bs : List Nat) : ∀ u ∈ cellsOf bs, u.oneCell' = true := by
  intro u hu
  obtain ⟨x, _, rfl⟩ := List.mem_map.1 hu
  rfl

/-- The slice v of bytes reads as bs. -/
structure Reads (w : World) (v : Value) (b off cap : Nat) (bs : List Nat) : Prop where
  shape : v = .slice (some ⟨b, off, none⟩) bs.length cap
  lt : ∀ x ∈ bs, x < 256
  le : bs.length ≤ maxLen
  cell : ∀ j, j < bs.length → w.cell? ⟨b, off + j, none⟩ = some (.int .u8 ((bs.getD j 0 : Nat) : Int))

theorem Reads.kept {w w' : World} {v : Value} {b off cap B : Nat} {bs : List Nat} (h : Reads w v b off cap bs) (k : Kept B w w') (hb : b < B) : Reads w' v b off cap bs :=
  ⟨h.shape, h.lt, h.le, fun j hj => (k.cell (p := ⟨b, off + j, none⟩) hb).trans (h.cell j hj)⟩

/-- What a slice of bytes yields to an append. -/
theorem Reads.src {P : Program} {tx e' : TypeId} {w : World} {v : Value} {b off cap : Nat} {bs : List Nat} (h : Reads w v b off cap bs) (hk : P.underlying tx = some (.slice e')) : Src P 1 tx v bs.length (cellsOf bs) w := by
  rw [h.shape]
  refine Src.ofSlice w hk ⟨b, off, none⟩ bs.length cap (cellsOf bs) (by simp [cellsOf_length]) (fun j u hj => ?_) (cellsOf_one bs)
  have hl : j < bs.length := by
    rcases Nat.lt_or_ge j (cellsOf bs).length with h1 | h1
    · simpa [cellsOf_length] using h1
    · rw [List.getElem?_eq_none h1] at hj; cases hj
  rw [cellsOf_get hl] at hj
  injection hj with hj
  subst hj
  rw [Addr.add_lit]
  exact h.cell j hl

/-- What lies behind a slice that has been appended to. -/
theorem Upon.reads {W w : World} {e : TypeId} {ao : Option Addr} {b off len cap m r : Nat} {os ks : List Nat} {v : Value} (hc : Came W 1 ao b off len cap (cellsOf os))
    (h : Upon W e 1 ao b off len cap (cellsOf os) w v m (cellsOf ks) r) (hmax : cap ≤ maxLen) (hpos : 0 < cap ∨ 0 < m) (hl : ∀ x ∈ os ++ ks, x < 256) :
    ∃ g o' cap', Reads w v g o' cap' (os ++ ks) ∧ (os ++ ks).length ≤ cap' ∧ cap' ≤ maxLen := by
  obtain ⟨g, o', cap', hv, h1, h2, h3⟩ := h.value hc hmax hpos
  have e1 : (os ++ ks).length = len + m := by
    have a := hc.oldsLen; have b := h.ksLen
    rw [cellsOf_length] at a b
    rw [List.length_append]; omega
  refine ⟨g, o', cap', ⟨by rw [hv, e1], hl, by omega, fun j hj => ?_⟩, by omega, h2⟩
  rw [h3 j (by omega), ← cellsOf_append, cellsOf_get hj]

end Go.Proofs.YticgkjcdhmejcaaDoor
