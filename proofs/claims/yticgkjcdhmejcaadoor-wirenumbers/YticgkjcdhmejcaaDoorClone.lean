/- bytes.Clone and getBytes: bytes as a list of their own. -/
import Derived.Test.YticgkjcdhmejcaaDoorFixed
import Derived.Lib.SliceRun
namespace Go.Proofs.YticgkjcdhmejcaaDoor
open Go.RowKit

/-- What a slice has lies from block B on. -/
def New (B : Nat) (v : Value) : Prop := ∀ a n c, v = .slice (some a) (n + 1) c → B ≤ a.block
theorem New.mono {B B' : Nat} {v : Value} (h : New B v) (hB : B' ≤ B) : New B' v := fun a n c e => Nat.le_trans hB (h a n c e)
theorem New.nil (B : Nat) (a : Option Addr) (c : Nat) : New B (.slice a 0 c) := fun a' n c' e => by injection e with _ e _; omega

theorem upon_new {W w : World} {e : TypeId} {ao : Option Addr} {b off m r : Nat} {ks os : List Value} {v : Value}
    (h : Upon W e 1 ao b off 0 0 os w v m ks r) : New W.heap.size v := by
  rcases h.val with ⟨h1, rfl, _⟩ | ⟨_, g, c', rfl, ho⟩
  · intro a n c e; injection e with _ e _; omega
  · intro a n c e
    injection e with e _ _
    injection e with e
    subst e
    exact ho.new

theorem upon_or {W w : World} {e : TypeId} {ao : Option Addr} {b off m r : Nat} {bs : List Nat} {v : Value}
    (h : Upon W e 1 ao b off 0 0 (cellsOf []) w v m (cellsOf bs) r) (hl : ∀ x ∈ bs, x < 256) : (∃ a c, v = .slice a bs.length c) ∧ ReadsOr w v bs := by
  have hm : m = bs.length := by have := h.ksLen; rw [cellsOf_length] at this; omega
  subst hm
  rcases Nat.eq_zero_or_pos bs.length with h0 | h0
  · have hb : bs = [] := List.eq_nil_of_length_eq_zero h0
    subst hb
    have hv := h.bare (came_nil W ao b off) rfl rfl
    exact ⟨⟨_, _, hv⟩, .inl ⟨rfl, _, _, hv⟩⟩
  · obtain ⟨g, o, c, hR, h1, h2⟩ := Upon.reads (os := []) (came_nil W ao b off) h (Nat.zero_le _) (.inr h0) (by simpa using hl)
    rw [List.nil_append] at hR h1
    exact ⟨⟨_, _, hR.shape⟩, .inr ⟨g, o, c, hR, h0, World.block_lt_of_cell? _ _ (hR.cell 0 h0), h1, h2⟩⟩

set_option maxHeartbeats 1000000 in
theorem clone_any (x : Addr) (cap : Nat) (bs : List Nat) (w : World) (h : ReadsOr w (.slice (some x) bs.length cap) bs) (hlen : bs.length ≤ 1000000) :
    Calls Tryd.prog 41 #[.slice (some x) bs.length cap] w fun e w' => ∃ a c, e = .returned (.slice a bs.length c) ∧ ReadsOr w' (.slice a bs.length c) bs ∧ New w.heap.size (.slice a bs.length c) ∧ Kept w.heap.size w w' := by
  obtain ⟨i0, hi, hz0, hz1, hz2⟩ := info_parts info_u8
  have hlt := h.lt
  have qT : ∀ (w : World) (a : Option Addr) (n c n' c' : Nat), (binOp .eql 22 (.slice a n c) (.slice none n' c')).run Tryd.prog w = .ok (.bool a.isNone) w := fun w a n c n' c' => Lib.run_eql_slice_nil w _ _ a n c n' c' Tryd.underlying22
  go_enter Tryd.func41, Tryd.ntmps41
  go_wp2_with (at_builtin; refine wpList_append_upon _ rfl (.tmp 5) (.tmp 6) 22 22 rfl (came_nil _ (some ⟨w.heap.size, 0, none⟩) w.heap.size 0) i0 (.int .u8 0) 1 Tryd.underlying22 hi hz0 hz1 hz2 rfl rfl (Upon.start (came_nil _ (some ⟨w.heap.size, 0, none⟩) w.heap.size 0)) _ bs.length (cellsOf bs) rfl ?hsrc (by unfold maxLen; omega) (by omega) ?_)
  case hsrc => exact (h.kept (Kept.alloc (Kept.refl _ _) (Nat.le_refl _) _)).src Tryd.underlying22
  intro v1 w1 hup
  have hk : Kept (w.heap.size + 1) (w.alloc (.cells #[] 5)) w1 := Kept.upon hup (by simp) (.inl rfl)
  obtain ⟨⟨a, c, hv⟩, hr⟩ := upon_or hup hlt
  have HK : Kept w.heap.size w w1 := (Kept.alloc (Kept.refl _ _) (Nat.le_refl _) _).trans (hk.mono (by omega))
  have hnew : New w.heap.size v1 := (upon_new hup).mono (by simp)
  rw [hv] at hr hnew
  rw [hv]
  clear hup hk hv h hlt
  go_wp2
  go_ret
  exact ⟨a, c, rfl, hr, hnew, HK⟩

theorem clone_at (x : Addr) (n cap : Nat) (bs : List Nat) (w : World) (hn : bs.length = n) (h : ReadsOr w (.slice (some x) n cap) bs) (hlen : n ≤ 1000000) :
    Calls Tryd.prog 41 #[.slice (some x) n cap] w fun e w' => ∃ a c, e = .returned (.slice a n c) ∧ ReadsOr w' (.slice a n c) bs ∧ New w.heap.size (.slice a n c) ∧ Kept w.heap.size w w' := by
  subst hn; exact clone_any x cap bs w h hlen

theorem Reads.cut {w : World} {b off cap cap' L : Nat} {bs : List Nat} (h : Reads w (.slice (some ⟨b, off, none⟩) L cap) b off cap bs) {k n : Nat} (hk : k + n ≤ bs.length) :
    Reads w (.slice (some ⟨b, off + k, none⟩) n cap') b (off + k) cap' ((bs.drop k).take n) := by
  have hl : ((bs.drop k).take n).length = n := by simp; omega
  refine ⟨by rw [hl], fun x hx => h.lt x (List.mem_of_mem_drop (List.mem_of_mem_take hx)), by have := h.le; omega, fun j hj => ?_⟩
  rw [hl] at hj
  have := h.cell (k + j) (by omega)
  rw [show off + k + j = off + (k + j) by omega, this]
  have e : ((bs.drop k).take n).getD j 0 = bs.getD (k + j) 0 := by simp [hj]
  rw [e]

set_option maxHeartbeats 1000000 in
theorem bytes_none {w : World} {v : Value} {bs : List Nat} (h : ReadsOr w v bs) (hg : getv bs 0 = none) :
    Calls Tryd.prog 33 #[v] w fun e w' => e = .returned (.tuple #[.slice none 0 0, .int .i64 0, .iface 24 (.int .i64 3)]) ∧ w' = w := by
  have HG : Hid (getv bs 0 = none) := hg
  clear hg
  go_enter Tryd.func33, Tryd.ntmps33
  go_wp2_with fail
  refine (get_or_none h HG.out).mono ?_
  rintro e w1 ⟨rfl, rfl⟩
  go_wp2
  go_ret3
  exact ⟨rfl, rfl⟩

set_option maxHeartbeats 1000000 in
theorem bytes_some (b off cap : Nat) (bs : List Nat) (w : World) (h : Reads w (.slice (some ⟨b, off, none⟩) bs.length cap) b off cap bs) (hb : b < w.heap.size) (hlen : bs.length ≤ 1000000) (hcap : bs.length ≤ cap) (hcm : cap ≤ maxLen) (h0 : 0 < bs.length)
    (n k : Nat) (hg : getv bs 0 = some (n, k)) :
    Calls Tryd.prog 33 #[.slice (some ⟨b, off, none⟩) bs.length cap] w fun e w' =>
      (bs.length - k < n ∧ e = .returned (.tuple #[.slice none 0 0, .int .i64 0, .iface 24 (.int .i64 3)]) ∧ w' = w) ∨
      (n ≤ bs.length - k ∧ ∃ a c, e = .returned (.tuple #[.slice a n c, .int .i64 ((k + n : Nat) : Int), .nilIface]) ∧ ReadsOr w' (.slice a n c) ((bs.drop k).take n) ∧ New w.heap.size (.slice a n c) ∧ Kept w.heap.size w w') := by
  have hbd := getv_bound (by omega) h.lt hg
  have hn : n < 18446744073709551616 := hbd.2.2.2
  have hk10 : k ≤ 10 := by omega
  have hkl : k ≤ bs.length := hbd.2.1
  have hro : ReadsOr w (.slice (some ⟨b, off, none⟩) bs.length cap) bs := .inr ⟨b, off, cap, h, h0, hb, hcap, hcm⟩
  have HG : Hid (getv bs 0 = some (n, k)) := hg
  unfold maxLen at hcm
  clear hg hbd
  by_cases hle : n ≤ bs.length - k
  · by_cases hck : cap = k
    · obtain rfl : n = 0 := by omega
      subst hck
      have hE : ∀ w' x c', ReadsOr w' (.slice (some x) 0 c') [] := fun _ _ _ => .inl ⟨rfl, _, _, rfl⟩
      go_enter Tryd.func33, Tryd.ntmps33
      go_wp2_with fail
      refine (get_or_some hro HG.out).mono ?_
      rintro e w1 ⟨rfl, rfl⟩
      go_wp2_with fail
      refine (clone_at _ 0 _ [] _ rfl (hE _ _ _) (by simp)).mono ?_
      rintro e w2 ⟨a, c, rfl, hr, hnew, hk⟩
      go_wp2
      go_ret3
      exact .inr ⟨by omega, a, c, by simp, by simpa using hr, hnew, hk⟩
    · have hl : ((bs.drop k).take n).length = n := by simp; omega
      have hR : ReadsOr w (.slice (some ⟨b, off + k, none⟩) n (cap - k)) ((bs.drop k).take n) := by
        rcases Nat.eq_zero_or_pos n with h1 | h1
        · subst h1; exact .inl ⟨by simp, _, _, rfl⟩
        · exact .inr ⟨b, off + k, cap - k, h.cut (by omega), by omega, hb, by omega, by unfold maxLen; omega⟩
      go_enter Tryd.func33, Tryd.ntmps33
      go_wp2_with fail
      refine (get_or_some hro HG.out).mono ?_
      rintro e w1 ⟨rfl, rfl⟩
      go_wp2_with fail
      refine (clone_at ⟨b, off + k, none⟩ n (cap - k) ((bs.drop k).take n) _ hl hR (by omega)).mono ?_
      rintro e w2 ⟨a, c, rfl, hr, hnew, hk⟩
      clear hl hR
      go_wp2
      go_ret3
      exact .inr ⟨by omega, a, c, by simp, hr, hnew, hk⟩
  · have hle' : (bs.length : Int) - (k : Int) < (n : Int) := by omega
    go_enter Tryd.func33, Tryd.ntmps33
    go_wp2_with fail
    refine (get_or_some hro HG.out).mono ?_
    rintro e w1 ⟨rfl, rfl⟩
    go_wp2
    go_ret3
    exact .inl ⟨by omega, rfl, rfl⟩
end Go.Proofs.YticgkjcdhmejcaaDoor
