/- What holds through WireNumbers: the argument, its copy, and what the functions on them return. -/
import Derived.Test.YticgkjcdhmejcaaDoorPutFix
import Derived.Test.YticgkjcdhmejcaaDoorBare
import Derived.Test.YticgkjcdhmejcaaDoorPcs
namespace Go.Proofs.YticgkjcdhmejcaaDoor
open Go.RowKit
set_option linter.unusedVariables false

def gN : Option (Nat × Nat) → Nat
  | some p => p.1
  | none => 0
def gK : Option (Nat × Nat) → Nat
  | some p => p.2
  | none => 0
def gErr : Option (Nat × Nat) → Value
  | some _ => .nilIface
  | none => .iface 24 (.int .i64 3)
def gCode : Option (Nat × Nat) → Int
  | some _ => 0
  | none => 3
theorem gv_all (o : Option (Nat × Nat)) : gvRes o = .returned (.tuple #[.int .u64 (gN o : Int), .int .i64 (gK o : Int), gErr o]) := by cases o <;> rfl
theorem rg_all (o : Option (Nat × Nat)) : rgRes o = .returned (.tuple #[.int .u64 (gN o : Int), .int .i64 (gK o : Int), .int .i64 (gCode o)]) := by cases o <;> rfl
theorem bare_any (o : Option (Nat × Nat)) (w : World) (hL : Laid w) : Calls Tryd.prog 8 #[gErr o, .int .i64 (gCode o)] w fun e w' => e = .returned (.bool true) ∧ Kept w.heap.size w w' := by
  cases o with
  | some _ => exact bare_nil w
  | none => exact bare_err 3 w hL
theorem get_all {w : World} {v : Value} {bs : List Nat} (h : ReadsOr w v bs) : Calls Tryd.prog 7 #[v] w fun e w' => e = .returned (.tuple #[.int .u64 (gN (getv bs 0) : Int), .int .i64 (gK (getv bs 0) : Int), gErr (getv bs 0)]) ∧ w' = w := by
  rw [← gv_all]
  rcases h with ⟨rfl, a, cap, rfl⟩ | ⟨b, off, cap, h, _, _⟩
  · exact get_nil a cap w
  · exact get_reads h
theorem rget_all {s : ByteArray} {bs : List Nat} (w : World) (hs : Spells s bs) (hl : bs.length ≤ 1000000) :
    Calls Tryd.prog 6 #[.string s] w fun e w' => e = .returned (.tuple #[.int .u64 (gN (getv bs 0) : Int), .int .i64 (gK (getv bs 0) : Int), .int .i64 (gCode (getv bs 0))]) ∧ w' = w := by
  rw [← rg_all]; exact rget_any s bs w hs hl

/-- The copy can be appended to; the old memory is as it was. -/
structure Hold (w0 : World) (ao : Option Addr) (ba oa ca : Nat) (bs : List Nat) (w : World) : Prop where
  came : Came w 1 ao ba oa bs.length ca (cellsOf bs)
  own : ca = 0 ∨ w0.heap.size ≤ ba
  most : ca ≤ maxLen
  kept : Kept w0.heap.size w0 w

theorem Hold.next {w0 w w' : World} {ao : Option Addr} {ba oa ca : Nat} {bs : List Nat} (h : Hold w0 ao ba oa ca bs w) (k : Kept w.heap.size w w') : Hold w0 ao ba oa ca bs w' :=
  ⟨Came.kept h.came k (fun hp => h.came.lt hp), h.own, h.most, h.kept.trans (k.mono h.kept.size)⟩
theorem Hold.drew {w0 w : World} {ao : Option Addr} {ba oa ca : Nat} {bs : List Nat} (h : Hold w0 ao ba oa ca bs w) : Hold w0 ao ba oa ca bs w.drew :=
  h.next ⟨rfl, rfl, Nat.le_refl _, fun _ _ => rfl⟩

/-- Behind an append to the copy the copy itself is as it was. -/
theorem came_after {W w : World} {e : TypeId} {ao : Option Addr} {b off len cap m r : Nat} {olds ks : List Value} {v : Value} (hc : Came W 1 ao b off len cap olds) (h : Upon W e 1 ao b off len cap olds w v m ks r) : Came w 1 ao b off len cap olds := by
  have hol := hc.oldsLen
  refine ⟨hc.le, hc.addr, fun hp => by have := hc.lt hp; have := h.kept.size; omega, hol, fun j u hj => ?_, fun j hj => ?_⟩
  · have hjl : j < olds.length := by
      rcases Nat.lt_or_ge j olds.length with h1 | h1
      · exact h1
      · rw [List.getElem?_eq_none h1] at hj; cases hj
    have hp : 0 < cap := by have := hc.le; omega
    rw [h.old (hc.lt hp) (fun j' _ => by rintro ⟨_, h2⟩; omega)]
    exact hc.olds j u hj
  · have hp : 0 < cap := by omega
    have hs := hc.spare j hj
    rw [h.frozen ⟨b, off + len * 1 + j, none⟩ (hc.lt hp)]
    refine ⟨?_, hs.2⟩
    rcases Nat.lt_or_ge j r with h1 | h1
    · rw [h.written j h1, List.getElem?_eq_getElem (by have := h.rLe; omega)]; rfl
    · rw [h.old (hc.lt hp) (fun j' hj' => by rintro ⟨_, h2⟩; omega)]; exact hs.1

theorem upon_all {W w : World} {e : TypeId} {ao : Option Addr} {b off len cap m r : Nat} {os ks : List Nat} {v : Value} (hc : Came W 1 ao b off len cap (cellsOf os)) (h : Upon W e 1 ao b off len cap (cellsOf os) w v m (cellsOf ks) r)
    (hmax : cap ≤ maxLen) (hl : ∀ x ∈ os ++ ks, x < 256) : ∃ a' c', v = .slice a' (os ++ ks).length c' ∧ ReadsOr w v (os ++ ks) := by
  have e1 : (os ++ ks).length = len + m := by
    have a := hc.oldsLen; have b := h.ksLen
    rw [cellsOf_length] at a b
    rw [List.length_append]; omega
  rcases Nat.eq_zero_or_pos (os ++ ks).length with h0 | h0
  · obtain ⟨a', c', hv⟩ := h.shape
    have hz : len + m = 0 := by omega
    refine ⟨a', c', by rw [hv, e1], .inl ⟨List.eq_nil_of_length_eq_zero h0, a', c', by rw [hv, hz]⟩⟩
  · have hpos : 0 < cap ∨ 0 < m := by have := hc.le; omega
    obtain ⟨g, o', cap', hR, h1, h2⟩ := Upon.reads hc h hmax hpos hl
    exact ⟨_, _, hR.shape, .inr ⟨g, o', cap', hR, h0, World.block_lt_of_cell? _ _ (hR.cell 0 h0), h1, h2⟩⟩

theorem Hold.upon {w0 w w' : World} {e : TypeId} {ao : Option Addr} {ba oa ca m r : Nat} {bs ks : List Nat} {v : Value} (h : Hold w0 ao ba oa ca bs w) (hu : Upon w e 1 ao ba oa bs.length ca (cellsOf bs) w' v m (cellsOf ks) r) : Hold w0 ao ba oa ca bs w' :=
  ⟨came_after h.came hu, h.own, h.most, h.kept.trans (Kept.upon hu h.kept.size h.own)⟩

theorem lt_app {a b : List Nat} (ha : ∀ x ∈ a, x < 256) (hb : ∀ x ∈ b, x < 256) : ∀ x ∈ a ++ b, x < 256 := fun x hx => by
  rcases List.mem_append.1 hx with h | h
  · exact ha x h
  · exact hb x h

theorem put_hold {w0 w : World} {ao : Option Addr} {ba oa ca n S : Nat} {bs : List Nat} {P : World → Prop} (hS : IsSize n S) (hn : n < 18446744073709551616) (hbl : ∀ x ∈ bs, x < 256) (hlen : bs.length ≤ 100) (hP : ∀ w', Hold w0 ao ba oa ca bs w' → P w') (h : Hold w0 ao ba oa ca bs w ∧ P w) :
    Calls Tryd.prog 11 #[.slice ao bs.length ca, .int .u64 (n : Int)] w fun e w' => ∃ a' m c', e = .returned (.slice a' m c') ∧ ReadsOr w' (.slice a' m c') (bs ++ enc n S) ∧ Hold w0 ao ba oa ca bs w' ∧ P w' := by
  refine (put_any ao ba oa bs.length ca (cellsOf bs) n w h.1.came (by omega) hn).mono ?_
  rintro e w' ⟨S', r, v, rfl, hS', hup⟩
  obtain rfl := isSize_unique hS hS'
  obtain ⟨a', c', hv, hR⟩ := upon_all h.1.came hup h.1.most (lt_app hbl (enc_lt hS))
  subst hv
  exact ⟨a', _, c', rfl, hR, h.1.upon hup, hP _ (h.1.upon hup)⟩

theorem fix_hold {w0 w : World} {ao : Option Addr} {ba oa ca n : Nat} {m : Int} {bs : List Nat} {P : World → Prop} (hn : n < 18446744073709551616) (hbl : ∀ x ∈ bs, x < 256) (hlen : bs.length ≤ 100) (hP : ∀ w', Hold w0 ao ba oa ca bs w' → P w') (h : Hold w0 ao ba oa ca bs w ∧ P w) :
    Calls Tryd.prog 12 #[.slice ao bs.length ca, .int .u64 (n : Int), .int .i64 m] w fun e w' => ∃ a' k c', e = .returned (.slice a' k c') ∧ ReadsOr w' (.slice a' k c') (bs ++ fixB n (clamp m)) ∧ Hold w0 ao ba oa ca bs w' ∧ P w' := by
  refine (putfix_any ao ba oa bs.length ca (cellsOf bs) n m w h.1.came (by omega) hn).mono ?_
  rintro e w' ⟨r, v, rfl, hup⟩
  obtain ⟨a', c', hv, hR⟩ := upon_all h.1.came hup h.1.most (lt_app hbl (fixB_lt n (clamp m)))
  subst hv
  exact ⟨a', _, c', rfl, hR, h.1.upon hup, hP _ (h.1.upon hup)⟩

theorem tag_hold {w0 w : World} {ao : Option Addr} {ba oa ca a f : Nat} {bs : List Nat} {P : World → Prop} (h1 : 1 ≤ a) (h2 : a ≤ 536870911) (hf : f < 8) (hbl : ∀ x ∈ bs, x < 256) (hlen : bs.length ≤ 100) (hP : ∀ w', Hold w0 ao ba oa ca bs w' → P w') (h : Hold w0 ao ba oa ca bs w ∧ P w) :
    Calls Tryd.prog 14 #[.slice ao bs.length ca, .int .i64 (a : Int), .int .i64 (f : Int)] w fun e w' => ∃ S a' k c', e = .returned (.slice a' k c') ∧ IsSize (a * 8 + f) S ∧ ReadsOr w' (.slice a' k c') (bs ++ enc (a * 8 + f) S) ∧ Hold w0 ao ba oa ca bs w' ∧ P w' := by
  refine (puttag_any ao ba oa bs.length ca (cellsOf bs) a f w h.1.came (by omega) h1 h2 hf).mono ?_
  rintro e w' ⟨S, r, v, rfl, hS, hup⟩
  obtain ⟨a', c', hv, hR⟩ := upon_all h.1.came hup h.1.most (lt_app hbl (enc_lt hS))
  subst hv
  exact ⟨S, a', _, c', rfl, hS, hR, h.1.upon hup, hP _ (h.1.upon hup)⟩

theorem var_hold {w0 w : World} {ao : Option Addr} {ba oa ca n S : Nat} {bs : List Nat} {P : World → Prop} (hS : IsSize n S) (hn : n < 18446744073709551616) (hP : ∀ w', Hold w0 ao ba oa ca bs w' → P w') (h : Hold w0 ao ba oa ca bs w ∧ P w) :
    Calls Tryd.prog 10 #[.int .u64 (n : Int)] w fun e w' => e = .returned (.string (str (enc n S))) ∧ Kept w.heap.size w w' ∧ Hold w0 ao ba oa ca bs w' ∧ P w' :=
  (rvar_at w hS rfl hn).mono fun e w' ⟨he, hk⟩ => ⟨he, hk, h.1.next hk, hP _ (h.1.next hk)⟩
theorem rfix_hold {w0 w : World} {ao : Option Addr} {ba oa ca n k : Nat} {bs : List Nat} {P : World → Prop} (hn : n < 18446744073709551616) (hk : k ≤ 8) (hP : ∀ w', Hold w0 ao ba oa ca bs w' → P w') (h : Hold w0 ao ba oa ca bs w ∧ P w) :
    Calls Tryd.prog 13 #[.int .u64 (n : Int), .int .i64 (k : Int)] w fun e w' => e = .returned (.string (str (fixB n k))) ∧ Kept w.heap.size w w' ∧ Hold w0 ao ba oa ca bs w' ∧ P w' :=
  (rfix_any n k w hn hk).mono fun e w' ⟨he, hk⟩ => ⟨he, hk, h.1.next hk, hP _ (h.1.next hk)⟩
theorem rfix_hold_at {w0 w : World} {ao : Option Addr} {ba oa ca n k : Nat} {x : Int} {bs : List Nat} {P : World → Prop} (hx : x = (k : Int)) (hn : n < 18446744073709551616) (hk : k ≤ 8) (hP : ∀ w', Hold w0 ao ba oa ca bs w' → P w') (h : Hold w0 ao ba oa ca bs w ∧ P w) :
    Calls Tryd.prog 13 #[.int .u64 (n : Int), .int .i64 x] w fun e w' => e = .returned (.string (str (fixB n k))) ∧ Kept w.heap.size w w' ∧ Hold w0 ao ba oa ca bs w' ∧ P w' := by subst hx; exact rfix_hold hn hk hP h
theorem clamp_eq (m : Int) : (if 8 < (if m < 0 then 0 else m) then 8 else if m < 0 then 0 else m) = ((clamp m : Nat) : Int) := by
  unfold clamp; split <;> split <;> omega
theorem rtag_hold {w0 w : World} {ao : Option Addr} {ba oa ca a f S : Nat} {bs : List Nat} {P : World → Prop} (h1 : 1 ≤ a) (h2 : a ≤ 536870911) (hf : f < 8) (hS : IsSize (a * 8 + f) S) (hP : ∀ w', Hold w0 ao ba oa ca bs w' → P w') (h : Hold w0 ao ba oa ca bs w ∧ P w) :
    Calls Tryd.prog 15 #[.int .i64 (a : Int), .int .i64 (f : Int)] w fun e w' => e = .returned (.string (str (enc (a * 8 + f) S))) ∧ Kept w.heap.size w w' ∧ Hold w0 ao ba oa ca bs w' ∧ P w' :=
  (rtag_any a f S w h1 h2 hf hS).mono fun e w' ⟨he, hk⟩ => ⟨he, hk, h.1.next hk, hP _ (h.1.next hk)⟩
end Go.Proofs.YticgkjcdhmejcaaDoor
