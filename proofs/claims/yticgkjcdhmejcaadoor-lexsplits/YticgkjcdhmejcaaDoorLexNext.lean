/- wrong, number, text, next: one token. -/
import Derived.Test.YticgkjcdhmejcaaDoorLexSkip
import Derived.Laws.DeepStrings4
namespace Go.Proofs.YticgkjcdhmejcaaDoor
open Go.RowKit
set_option linter.unusedVariables false
set_option linter.unusedSimpArgs false

/-- An error at a place, in new memory. -/
def AtErr (B : Nat) (w : World) (v : Value) (code place : Nat) : Prop :=
  ∃ b, v = .iface 91 (.pointer (some ⟨b, 0, none⟩)) ∧ B ≤ b ∧ w.cell? ⟨b, 0, none⟩ = some (.int .i64 (code : Int)) ∧ w.cell? ⟨b, 1, none⟩ = some (.int .i64 (place : Int))
theorem AtErr.kept {B : Nat} {w w' : World} {v : Value} {c p : Nat} (h : AtErr B w v c p) (k : Kept w.heap.size w w') : AtErr B w' v c p := by
  obtain ⟨b, h1, h2, h3, h4⟩ := h
  have hb := World.block_lt_of_cell? _ _ h3
  exact ⟨b, h1, h2, by rw [k.cell (p := ⟨b, 0, none⟩) hb]; exact h3, by rw [k.cell (p := ⟨b, 1, none⟩) hb]; exact h4⟩
theorem AtErr.mono {B B' : Nat} {w : World} {v : Value} {c p : Nat} (h : AtErr B w v c p) (hB : B' ≤ B) : AtErr B' w v c p := by
  obtain ⟨b, h1, h2, h3⟩ := h
  exact ⟨b, h1, Nat.le_trans hB h2, h3⟩

theorem AtErr.set {B : Nat} {w : World} {v : Value} {c p : Nat} (h : AtErr B w v c p) {a : Addr} (ha : a.block < B) (x : Value) : AtErr B (w.setCell a x) v c p := by
  obtain ⟨b, h1, h2, h3, h4⟩ := h
  exact ⟨b, h1, h2, (World.cell?_setCell_other _ _ _ _ (by rintro rfl; simp at ha; omega)).trans h3, (World.cell?_setCell_other _ _ _ _ (by rintro rfl; simp at ha; omega)).trans h4⟩

def noTok (v : Value) : Value := .tuple #[.agg #[.int .i64 0, .string ⟨#[]⟩, .int .i64 0], .int .i64 0, v]
def tokRes (k : Nat) (sb : ByteArray) (i n : Nat) : Value := .tuple #[.agg #[.int .i64 (k : Int), .string sb, .int .i64 (i : Int)], .int .i64 ((i + n : Nat) : Int), .nilIface]

theorem alloc2k (w : World) (o1 o2 : Obj) : Kept w.heap.size w ((w.alloc o1).alloc o2) := Kept.alloc (Kept.alloc (Kept.refl _ _) (Nat.le_refl _) _) (by simp) _

set_option maxHeartbeats 1000000 in
theorem wrong_any (c p : Nat) (w : World) :
    Calls Tryd.prog 50 #[.int .i64 (c : Int), .int .i64 (p : Int)] w fun e w' => ∃ v, e = .returned (noTok v) ∧ AtErr w.heap.size w' v c p ∧ Kept w.heap.size w w' := by
  go_enter Tryd.func50, Tryd.ntmps50
  go_wp2
  exact bodyPost_ret (v := noTok (.iface 91 (.pointer (some ⟨w.heap.size + 1, 0, none⟩)))) (by simp [results, Tryd.results50, go_sem, noTok]) rfl ⟨_, rfl, ⟨w.heap.size + 1, rfl, by omega, by simp, by simp⟩, alloc2k _ _ _⟩

theorem run_end {s : ByteArray} {bs : List Nat} (p : Nat → Bool) (i : Nat) (hs : Spells s bs) (hi : i ≤ s.size) : i + runv p (bs.drop i) ≤ s.size := by
  have := runv_le p (bs.drop i)
  rw [List.length_drop] at this
  have := hs.size; omega
theorem cut_n {s : ByteArray} {bs : List Nat} {i n : Nat} (hs : Spells s bs) (hn : i + n ≤ s.size) : Spells (s.extract i (i + n)) ((bs.drop i).take n) := by
  have hc := hs.cut hn (Nat.le_add_right _ _)
  rwa [Nat.add_sub_cancel_left] at hc
theorem run_n {f : FuncId} {p : Nat → Bool} (hf : Tells f p) {s : ByteArray} {bs : List Nat} {i n : Nat} {x : Int} (w : World) (hs : Spells s bs) (hl : s.size ≤ 100000) (hi : i ≤ s.size) (hn : n = runv p (bs.drop i)) (hx : x = (i : Int)) :
    Calls Tryd.prog 39 #[.string s, .int .i64 x, .func (.func f) #[] #[]] w fun e w' => e = .returned (.int .i64 ((i : Int) + (n : Int))) ∧ w' = w := by
  subst hx
  refine (run_any f p hf s bs i w hs hl hi).mono ?_
  rintro e w' ⟨rfl, rfl⟩
  rw [hn]; exact ⟨rfl, rfl⟩

set_option maxHeartbeats 1000000 in
theorem number_ok (s : ByteArray) (bs : List Nat) (i n : Nat) (w : World) (hs : Spells s bs) (hl : s.size ≤ 100000) (hi : i ≤ s.size) (hn : n = runv isDig (bs.drop i)) (h10 : n ≤ 10) :
    Calls Tryd.prog 47 #[.string s, .int .i64 (i : Int)] w fun e w' => ∃ sb, e = .returned (tokRes 2 sb i n) ∧ Spells sb ((bs.drop i).take n) ∧ Kept w.heap.size w w' := by
  have hin : i + n ≤ s.size := by rw [hn]; exact run_end isDig i hs hi
  have HC : Hid (Spells (s.extract i (i + n)) ((bs.drop i).take n)) := cut_n hs hin
  have HN : Hid (n = runv isDig (bs.drop i)) := hn
  clear hn
  go_enter Tryd.func47, Tryd.ntmps47
  go_wp2_with fail
  refine (run_n digit_tells _ hs hl hi HN.out rfl).mono ?_
  rintro e w1 ⟨rfl, rfl⟩
  clear hs
  go_wp2
  exact bodyPost_ret (v := tokRes 2 (s.extract i (i + n)) i n) (by simp [results, Tryd.results47, go_sem, tokRes]) rfl ⟨_, rfl, HC.out, Kept.alloc (Kept.refl _ _) (Nat.le_refl _) _⟩

set_option maxHeartbeats 1000000 in
theorem number_bad (s : ByteArray) (bs : List Nat) (i n : Nat) (w : World) (hs : Spells s bs) (hl : s.size ≤ 100000) (hi : i ≤ s.size) (hn : n = runv isDig (bs.drop i)) (h10 : 10 < n) :
    Calls Tryd.prog 47 #[.string s, .int .i64 (i : Int)] w fun e w' => ∃ v, e = .returned (noTok v) ∧ AtErr w.heap.size w' v 4 i ∧ Kept w.heap.size w w' := by
  have hin : i + n ≤ s.size := by rw [hn]; exact run_end isDig i hs hi
  have HN : Hid (n = runv isDig (bs.drop i)) := hn
  clear hn
  go_enter Tryd.func47, Tryd.ntmps47
  go_wp2_with fail
  refine (run_n digit_tells _ hs hl hi HN.out rfl).mono ?_
  rintro e w1 ⟨rfl, rfl⟩
  clear hs
  go_wp2_with fail
  refine (wrong_any 4 i _).mono ?_
  rintro e w2 ⟨v, rfl, hA, hK⟩
  have c0 : w2.cell? ⟨w.heap.size, 0, none⟩ = some (.int .i64 0) := by rw [hK.cell (by simp)]; simp
  have c1 : w2.cell? ⟨w.heap.size, 1, none⟩ = some (.string ⟨#[]⟩) := by rw [hK.cell (by simp)]; simp
  have c2 : w2.cell? ⟨w.heap.size, 2, none⟩ = some (.int .i64 0) := by rw [hK.cell (by simp)]; simp
  have f0 : w2.frozen? ⟨w.heap.size, 0, none⟩ = false := by rw [hK.frozen (by simp)]; simp
  have f1 : w2.frozen? ⟨w.heap.size, 1, none⟩ = false := by rw [hK.frozen (by simp)]; simp
  have f2 : w2.frozen? ⟨w.heap.size, 2, none⟩ = false := by rw [hK.frozen (by simp)]; simp
  have HA : Hid (AtErr (w.heap.size + 1) w2 v 4 i) := by show AtErr (w.heap.size + 1) w2 v 4 i; simpa using hA
  have HK : Hid (Kept w.heap.size w w2) := (Kept.alloc (Kept.refl _ _) (Nat.le_refl _) _).trans (hK.mono (by simp))
  clear hA hK
  unfold noTok
  go_wp2
  exact bodyPost_ret (v := noTok v) (by simp [results, Tryd.results47, go_sem, noTok, c0, c1, c2]) rfl ⟨_, rfl, (((HA.out.set (by simp) _).set (by simp) _).set (by simp) _).mono (by omega), Kept.setCell (Kept.setCell (Kept.setCell HK.out (by simp) _) (by simp) _) (by simp) _⟩

theorem byte_lt {s : ByteArray} {bs : List Nat} (hs : Spells s bs) (k : Nat) : bs.getD k 0 < 256 := by
  rcases Nat.lt_or_ge k bs.length with h | h
  · simp only [List.getD_eq_getElem?_getD, List.getElem?_eq_getElem h, Option.getD_some]; exact hs.lt _ (List.getElem_mem h)
  · simp only [List.getD_eq_getElem?_getD, List.getElem?_eq_none h, Option.getD_none]; decide

set_option maxHeartbeats 1000000 in
theorem text_ok (s : ByteArray) (bs : List Nat) (i n : Nat) (w : World) (hs : Spells s bs) (hl : s.size ≤ 100000) (hi : i < s.size) (hn : n = runv inText (bs.drop (i + 1))) (h34 : bs.getD (i + 1 + n) 0 = 34) :
    Calls Tryd.prog 48 #[.string s, .int .i64 (i : Int)] w fun e w' => ∃ sb, e = .returned (tokRes 3 sb i (n + 2)) ∧ Spells sb ((bs.drop (i + 1)).take n) ∧ Kept w.heap.size w w' := by
  have hlt : i + 1 + n < s.size := by rw [hs.size]; exact getD_ne h34 (by decide)
  have hget : (s[i + 1 + n]'hlt).toNat = 34 := by rw [hs.get _ hlt, h34]
  have HC : Hid (Spells (s.extract (i + 1) (i + 1 + n)) ((bs.drop (i + 1)).take n)) := cut_n hs (by omega)
  have HN : Hid (n = runv inText (bs.drop (i + 1))) := hn
  have hi1 : i + 1 ≤ s.size := hi
  clear hn h34
  go_enter Tryd.func48, Tryd.ntmps48
  go_wp2_with fail
  refine (run_n (i := i + 1) text_tells _ hs hl hi1 HN.out (by omega)).mono ?_
  rintro e w1 ⟨rfl, rfl⟩
  clear hs
  go_wp2
  exact bodyPost_ret (v := tokRes 3 (s.extract (i + 1) (i + 1 + n)) i (n + 2)) (by simp [results, Tryd.results48, go_sem, tokRes]; omega) rfl ⟨_, rfl, HC.out, Kept.alloc (Kept.refl _ _) (Nat.le_refl _) _⟩

set_option maxHeartbeats 1000000 in
theorem text_bad (s : ByteArray) (bs : List Nat) (i n : Nat) (w : World) (hs : Spells s bs) (hl : s.size ≤ 100000) (hi : i < s.size) (hn : n = runv inText (bs.drop (i + 1))) (h34 : bs.getD (i + 1 + n) 0 ≠ 34) :
    Calls Tryd.prog 48 #[.string s, .int .i64 (i : Int)] w fun e w' => ∃ v, e = .returned (noTok v) ∧ AtErr w.heap.size w' v 3 i ∧ Kept w.heap.size w w' := by
  have hi1 : i + 1 ≤ s.size := hi
  have hin : i + 1 + n ≤ s.size := by rw [hn]; exact run_end inText (i + 1) hs hi1
  have HN : Hid (n = runv inText (bs.drop (i + 1))) := hn
  clear hn
  go_enter Tryd.func48, Tryd.ntmps48
  go_wp2_with fail
  refine (run_n (i := i + 1) text_tells _ hs hl hi1 HN.out (by omega)).mono ?_
  rintro e w1 ⟨rfl, rfl⟩
  by_cases hlt : i + 1 + n < s.size
  · obtain ⟨x, hx⟩ : ∃ x, x = bs.getD (i + 1 + n) 0 := ⟨_, rfl⟩
    have hget : (s[i + 1 + n]'hlt).toNat = x := by rw [hs.get _ hlt, hx]
    have hx34 : x ≠ 34 := by rw [hx]; exact h34
    have hx256 : x < 256 := by rw [hx]; exact byte_lt hs _
    have hb : ((x : Int) != 34) = true := by rw [bne_iff_ne]; omega
    have hb2 : ((i : Int) + 1 + (n : Int) == (s.size : Int)) = false := by rw [beq_eq_false_iff_ne]; omega
    clear hs h34 hx hx34
    go_wp2_with fail
    refine (wrong_any 3 i _).mono ?_
    rintro e w2 ⟨v, rfl, hA, hK⟩
    have c0 : w2.cell? ⟨w.heap.size, 0, none⟩ = some (.int .i64 0) := by rw [hK.cell (by simp)]; simp
    have c1 : w2.cell? ⟨w.heap.size, 1, none⟩ = some (.string ⟨#[]⟩) := by rw [hK.cell (by simp)]; simp
    have c2 : w2.cell? ⟨w.heap.size, 2, none⟩ = some (.int .i64 0) := by rw [hK.cell (by simp)]; simp
    have f0 : w2.frozen? ⟨w.heap.size, 0, none⟩ = false := by rw [hK.frozen (by simp)]; simp
    have f1 : w2.frozen? ⟨w.heap.size, 1, none⟩ = false := by rw [hK.frozen (by simp)]; simp
    have f2 : w2.frozen? ⟨w.heap.size, 2, none⟩ = false := by rw [hK.frozen (by simp)]; simp
    have HA : Hid (AtErr (w.heap.size + 1) w2 v 3 i) := by show AtErr (w.heap.size + 1) w2 v 3 i; simpa using hA
    have HK : Hid (Kept w.heap.size w w2) := (Kept.alloc (Kept.refl _ _) (Nat.le_refl _) _).trans (hK.mono (by simp))
    clear hA hK
    unfold noTok
    go_wp2
    exact bodyPost_ret (v := noTok v) (by simp [results, Tryd.results48, go_sem, noTok, c0, c1, c2]) rfl ⟨_, rfl, (((HA.out.set (by simp) _).set (by simp) _).set (by simp) _).mono (by omega), Kept.setCell (Kept.setCell (Kept.setCell HK.out (by simp) _) (by simp) _) (by simp) _⟩
  · have heq : s.size = i + 1 + n := by omega
    have hE : (s.size : Int) = (i : Int) + 1 + (n : Int) := by omega
    clear hs h34 heq hlt
    go_wp2_with fail
    refine (wrong_any 3 i _).mono ?_
    rintro e w2 ⟨v, rfl, hA, hK⟩
    have c0 : w2.cell? ⟨w.heap.size, 0, none⟩ = some (.int .i64 0) := by rw [hK.cell (by simp)]; simp
    have c1 : w2.cell? ⟨w.heap.size, 1, none⟩ = some (.string ⟨#[]⟩) := by rw [hK.cell (by simp)]; simp
    have c2 : w2.cell? ⟨w.heap.size, 2, none⟩ = some (.int .i64 0) := by rw [hK.cell (by simp)]; simp
    have f0 : w2.frozen? ⟨w.heap.size, 0, none⟩ = false := by rw [hK.frozen (by simp)]; simp
    have f1 : w2.frozen? ⟨w.heap.size, 1, none⟩ = false := by rw [hK.frozen (by simp)]; simp
    have f2 : w2.frozen? ⟨w.heap.size, 2, none⟩ = false := by rw [hK.frozen (by simp)]; simp
    have HA : Hid (AtErr (w.heap.size + 1) w2 v 3 i) := by show AtErr (w.heap.size + 1) w2 v 3 i; simpa using hA
    have HK : Hid (Kept w.heap.size w w2) := (Kept.alloc (Kept.refl _ _) (Nat.le_refl _) _).trans (hK.mono (by simp))
    clear hA hK
    unfold noTok
    go_wp2
    exact bodyPost_ret (v := noTok v) (by simp [results, Tryd.results48, go_sem, noTok, c0, c1, c2]) rfl ⟨_, rfl, (((HA.out.set (by simp) _).set (by simp) _).set (by simp) _).mono (by omega), Kept.setCell (Kept.setCell (Kept.setCell HK.out (by simp) _) (by simp) _) (by simp) _⟩

set_option maxHeartbeats 1000000 in
set_option maxRecDepth 100000 in
theorem next_word (s : ByteArray) (bs : List Nat) (i : Nat) (w : World) (hs : Spells s bs) (hl : s.size ≤ 100000) (hi : i < s.size) (n : Nat) (hn : n = runv isLD (bs.drop i)) (x : Nat) (hx : x = bs.getD i 0) (hlet : isLet (bs.getD i 0) = true) :
    Calls Tryd.prog 37 #[.string s, .int .i64 (i : Int)] w fun e w' => ∃ sb, e = .returned (tokRes 1 sb i n) ∧ Spells sb ((bs.drop i).take n) ∧ Kept w.heap.size w w' := by
  have hin : i + n ≤ s.size := by rw [hn]; exact run_end isLD i hs (Nat.le_of_lt hi)
  have HC : Hid (Spells (s.extract i (i + n)) ((bs.drop i).take n)) := cut_n hs hin
  have HN : Hid (n = runv isLD (bs.drop i)) := hn
  clear hn
  have hx256 : bs.getD i 0 < 256 := byte_lt hs _
  have hget : (s[i]'hi).toNat = bs.getD i 0 := hs.get i hi
  have HX : Hid (x = bs.getD i 0) := hx
  rw [← hx] at hget hx256
  clear hx
  have hL : isLet x = true := by rw [HX.out]; exact hlet
  clear hlet
  go_enter Tryd.func37, Tryd.ntmps37
  go_wp2_with fail
  refine (letter_tells.call x _ hx256).mono ?_
  rw [hL]
  rintro e w1 ⟨rfl, rfl⟩
  go_wp2_with fail
  refine (run_n ld_tells _ hs hl (Nat.le_of_lt hi) HN.out rfl).mono ?_
  rintro e w1 ⟨rfl, rfl⟩
  clear hs
  go_wp2
  exact bodyPost_ret (v := tokRes 1 (s.extract i (i + n)) i n) (by simp [results, Tryd.results37, go_sem, tokRes]) rfl ⟨_, rfl, HC.out, Kept.alloc (Kept.refl _ _) (Nat.le_refl _) _⟩

set_option maxHeartbeats 1000000 in
set_option maxRecDepth 100000 in
theorem next_number (s : ByteArray) (bs : List Nat) (i : Nat) (w : World) (hs : Spells s bs) (hl : s.size ≤ 100000) (hi : i < s.size) (n : Nat) (hn : n = runv isDig (bs.drop i)) (h10 : n ≤ 10) (x : Nat) (hx : x = bs.getD i 0) (hlet : isLet (bs.getD i 0) = false) (hdig : isDig (bs.getD i 0) = true) :
    Calls Tryd.prog 37 #[.string s, .int .i64 (i : Int)] w fun e w' => ∃ sb, e = .returned (tokRes 2 sb i n) ∧ Spells sb ((bs.drop i).take n) ∧ Kept w.heap.size w w' := by
  have HN : Hid (n = runv isDig (bs.drop i)) := hn
  clear hn
  have hx256 : bs.getD i 0 < 256 := byte_lt hs _
  have hget : (s[i]'hi).toNat = bs.getD i 0 := hs.get i hi
  have HX : Hid (x = bs.getD i 0) := hx
  rw [← hx] at hget hx256
  clear hx
  have hL : isLet x = false := by rw [HX.out]; exact hlet
  clear hlet
  have hD : isDig x = true := by rw [HX.out]; exact hdig
  clear hdig
  go_enter Tryd.func37, Tryd.ntmps37
  go_wp2_with fail
  refine (letter_tells.call x _ hx256).mono ?_
  rw [hL]
  rintro e w1 ⟨rfl, rfl⟩
  go_wp2_with fail
  refine (digit_tells.call x _ hx256).mono ?_
  rw [hD]
  rintro e w1 ⟨rfl, rfl⟩
  go_wp2_with fail
  refine (number_ok s bs i n _ hs hl (Nat.le_of_lt hi) HN.out h10).mono ?_
  rintro e w2 ⟨sb, rfl, hsp, hK⟩
  clear hs
  have c0 : w2.cell? ⟨w.heap.size, 0, none⟩ = some (.int .i64 0) := by rw [hK.cell (by simp)]; simp
  have c1 : w2.cell? ⟨w.heap.size, 1, none⟩ = some (.string ⟨#[]⟩) := by rw [hK.cell (by simp)]; simp
  have c2 : w2.cell? ⟨w.heap.size, 2, none⟩ = some (.int .i64 0) := by rw [hK.cell (by simp)]; simp
  have f0 : w2.frozen? ⟨w.heap.size, 0, none⟩ = false := by rw [hK.frozen (by simp)]; simp
  have f1 : w2.frozen? ⟨w.heap.size, 1, none⟩ = false := by rw [hK.frozen (by simp)]; simp
  have f2 : w2.frozen? ⟨w.heap.size, 2, none⟩ = false := by rw [hK.frozen (by simp)]; simp
  have HK : Hid (Kept w.heap.size w w2) := (Kept.alloc (Kept.refl _ _) (Nat.le_refl _) _).trans (hK.mono (by simp))
  have HSP : Hid _ := hsp
  clear hK hsp
  unfold tokRes
  go_wp2
  exact bodyPost_ret (v := tokRes 2 sb i (n)) (by simp [results, Tryd.results37, go_sem, tokRes, c0, c1, c2]) rfl ⟨_, rfl, HSP.out, Kept.setCell (Kept.setCell (Kept.setCell HK.out (by simp) _) (by simp) _) (by simp) _⟩

set_option maxHeartbeats 1000000 in
set_option maxRecDepth 100000 in
theorem next_long (s : ByteArray) (bs : List Nat) (i : Nat) (w : World) (hs : Spells s bs) (hl : s.size ≤ 100000) (hi : i < s.size) (n : Nat) (hn : n = runv isDig (bs.drop i)) (h10 : 10 < n) (x : Nat) (hx : x = bs.getD i 0) (hlet : isLet (bs.getD i 0) = false) (hdig : isDig (bs.getD i 0) = true) :
    Calls Tryd.prog 37 #[.string s, .int .i64 (i : Int)] w fun e w' => ∃ v, e = .returned (noTok v) ∧ AtErr w.heap.size w' v 4 i ∧ Kept w.heap.size w w' := by
  have HN : Hid (n = runv isDig (bs.drop i)) := hn
  clear hn
  have hx256 : bs.getD i 0 < 256 := byte_lt hs _
  have hget : (s[i]'hi).toNat = bs.getD i 0 := hs.get i hi
  have HX : Hid (x = bs.getD i 0) := hx
  rw [← hx] at hget hx256
  clear hx
  have hL : isLet x = false := by rw [HX.out]; exact hlet
  clear hlet
  have hD : isDig x = true := by rw [HX.out]; exact hdig
  clear hdig
  go_enter Tryd.func37, Tryd.ntmps37
  go_wp2_with fail
  refine (letter_tells.call x _ hx256).mono ?_
  rw [hL]
  rintro e w1 ⟨rfl, rfl⟩
  go_wp2_with fail
  refine (digit_tells.call x _ hx256).mono ?_
  rw [hD]
  rintro e w1 ⟨rfl, rfl⟩
  go_wp2_with fail
  refine (number_bad s bs i n _ hs hl (Nat.le_of_lt hi) HN.out h10).mono ?_
  rintro e w2 ⟨v, rfl, hA, hK⟩
  clear hs
  have c0 : w2.cell? ⟨w.heap.size, 0, none⟩ = some (.int .i64 0) := by rw [hK.cell (by simp)]; simp
  have c1 : w2.cell? ⟨w.heap.size, 1, none⟩ = some (.string ⟨#[]⟩) := by rw [hK.cell (by simp)]; simp
  have c2 : w2.cell? ⟨w.heap.size, 2, none⟩ = some (.int .i64 0) := by rw [hK.cell (by simp)]; simp
  have f0 : w2.frozen? ⟨w.heap.size, 0, none⟩ = false := by rw [hK.frozen (by simp)]; simp
  have f1 : w2.frozen? ⟨w.heap.size, 1, none⟩ = false := by rw [hK.frozen (by simp)]; simp
  have f2 : w2.frozen? ⟨w.heap.size, 2, none⟩ = false := by rw [hK.frozen (by simp)]; simp
  have HA : Hid (AtErr (w.heap.size + 1) w2 v 4 i) := by show AtErr (w.heap.size + 1) w2 v 4 i; simpa using hA
  have HK : Hid (Kept w.heap.size w w2) := (Kept.alloc (Kept.refl _ _) (Nat.le_refl _) _).trans (hK.mono (by simp))
  clear hA hK
  unfold noTok
  go_wp2
  exact bodyPost_ret (v := noTok v) (by simp [results, Tryd.results37, go_sem, noTok, c0, c1, c2]) rfl ⟨_, rfl, (((HA.out.set (by simp) _).set (by simp) _).set (by simp) _).mono (by omega), Kept.setCell (Kept.setCell (Kept.setCell HK.out (by simp) _) (by simp) _) (by simp) _⟩

set_option maxHeartbeats 1000000 in
set_option maxRecDepth 100000 in
theorem next_text (s : ByteArray) (bs : List Nat) (i : Nat) (w : World) (hs : Spells s bs) (hl : s.size ≤ 100000) (hi : i < s.size) (n : Nat) (hn : n = runv inText (bs.drop (i + 1))) (h34 : bs.getD (i + 1 + n) 0 = 34) (x : Nat) (hx : x = bs.getD i 0) (hlet : isLet (bs.getD i 0) = false) (hdig : isDig (bs.getD i 0) = false) (hq : bs.getD i 0 = 34) :
    Calls Tryd.prog 37 #[.string s, .int .i64 (i : Int)] w fun e w' => ∃ sb, e = .returned (tokRes 3 sb i (n + 2)) ∧ Spells sb ((bs.drop (i + 1)).take n) ∧ Kept w.heap.size w w' := by
  have HN : Hid (n = runv inText (bs.drop (i + 1))) := hn
  have H34 : Hid (bs.getD (i + 1 + n) 0 = 34) := h34
  clear hn h34
  have hx256 : bs.getD i 0 < 256 := byte_lt hs _
  have hget : (s[i]'hi).toNat = bs.getD i 0 := hs.get i hi
  have HX : Hid (x = bs.getD i 0) := hx
  rw [← hx] at hget hx256
  clear hx
  have hL : isLet x = false := by rw [HX.out]; exact hlet
  clear hlet
  have hD : isDig x = false := by rw [HX.out]; exact hdig
  clear hdig
  have hx34 : x = 34 := by rw [HX.out]; exact hq
  clear hq HX
  subst hx34
  go_enter Tryd.func37, Tryd.ntmps37
  go_wp2_with fail
  refine (letter_tells.call 34 _ hx256).mono ?_
  rw [hL]
  rintro e w1 ⟨rfl, rfl⟩
  go_wp2_with fail
  refine (digit_tells.call 34 _ hx256).mono ?_
  rw [hD]
  rintro e w1 ⟨rfl, rfl⟩
  go_wp2_with fail
  refine (text_ok s bs i n _ hs hl hi HN.out H34.out).mono ?_
  rintro e w2 ⟨sb, rfl, hsp, hK⟩
  clear hs
  have c0 : w2.cell? ⟨w.heap.size, 0, none⟩ = some (.int .i64 0) := by rw [hK.cell (by simp)]; simp
  have c1 : w2.cell? ⟨w.heap.size, 1, none⟩ = some (.string ⟨#[]⟩) := by rw [hK.cell (by simp)]; simp
  have c2 : w2.cell? ⟨w.heap.size, 2, none⟩ = some (.int .i64 0) := by rw [hK.cell (by simp)]; simp
  have f0 : w2.frozen? ⟨w.heap.size, 0, none⟩ = false := by rw [hK.frozen (by simp)]; simp
  have f1 : w2.frozen? ⟨w.heap.size, 1, none⟩ = false := by rw [hK.frozen (by simp)]; simp
  have f2 : w2.frozen? ⟨w.heap.size, 2, none⟩ = false := by rw [hK.frozen (by simp)]; simp
  have HK : Hid (Kept w.heap.size w w2) := (Kept.alloc (Kept.refl _ _) (Nat.le_refl _) _).trans (hK.mono (by simp))
  have HSP : Hid _ := hsp
  clear hK hsp
  unfold tokRes
  go_wp2
  exact bodyPost_ret (v := tokRes 3 sb i (n + 2)) (by simp [results, Tryd.results37, go_sem, tokRes, c0, c1, c2]) rfl ⟨_, rfl, HSP.out, Kept.setCell (Kept.setCell (Kept.setCell HK.out (by simp) _) (by simp) _) (by simp) _⟩

set_option maxHeartbeats 1000000 in
set_option maxRecDepth 100000 in
theorem next_open (s : ByteArray) (bs : List Nat) (i : Nat) (w : World) (hs : Spells s bs) (hl : s.size ≤ 100000) (hi : i < s.size) (n : Nat) (hn : n = runv inText (bs.drop (i + 1))) (h34 : bs.getD (i + 1 + n) 0 ≠ 34) (x : Nat) (hx : x = bs.getD i 0) (hlet : isLet (bs.getD i 0) = false) (hdig : isDig (bs.getD i 0) = false) (hq : bs.getD i 0 = 34) :
    Calls Tryd.prog 37 #[.string s, .int .i64 (i : Int)] w fun e w' => ∃ v, e = .returned (noTok v) ∧ AtErr w.heap.size w' v 3 i ∧ Kept w.heap.size w w' := by
  have HN : Hid (n = runv inText (bs.drop (i + 1))) := hn
  have H34 : Hid (bs.getD (i + 1 + n) 0 ≠ 34) := h34
  clear hn h34
  have hx256 : bs.getD i 0 < 256 := byte_lt hs _
  have hget : (s[i]'hi).toNat = bs.getD i 0 := hs.get i hi
  have HX : Hid (x = bs.getD i 0) := hx
  rw [← hx] at hget hx256
  clear hx
  have hL : isLet x = false := by rw [HX.out]; exact hlet
  clear hlet
  have hD : isDig x = false := by rw [HX.out]; exact hdig
  clear hdig
  have hx34 : x = 34 := by rw [HX.out]; exact hq
  clear hq HX
  subst hx34
  go_enter Tryd.func37, Tryd.ntmps37
  go_wp2_with fail
  refine (letter_tells.call 34 _ hx256).mono ?_
  rw [hL]
  rintro e w1 ⟨rfl, rfl⟩
  go_wp2_with fail
  refine (digit_tells.call 34 _ hx256).mono ?_
  rw [hD]
  rintro e w1 ⟨rfl, rfl⟩
  go_wp2_with fail
  refine (text_bad s bs i n _ hs hl hi HN.out H34.out).mono ?_
  rintro e w2 ⟨v, rfl, hA, hK⟩
  clear hs
  have c0 : w2.cell? ⟨w.heap.size, 0, none⟩ = some (.int .i64 0) := by rw [hK.cell (by simp)]; simp
  have c1 : w2.cell? ⟨w.heap.size, 1, none⟩ = some (.string ⟨#[]⟩) := by rw [hK.cell (by simp)]; simp
  have c2 : w2.cell? ⟨w.heap.size, 2, none⟩ = some (.int .i64 0) := by rw [hK.cell (by simp)]; simp
  have f0 : w2.frozen? ⟨w.heap.size, 0, none⟩ = false := by rw [hK.frozen (by simp)]; simp
  have f1 : w2.frozen? ⟨w.heap.size, 1, none⟩ = false := by rw [hK.frozen (by simp)]; simp
  have f2 : w2.frozen? ⟨w.heap.size, 2, none⟩ = false := by rw [hK.frozen (by simp)]; simp
  have HA : Hid (AtErr (w.heap.size + 1) w2 v 3 i) := by show AtErr (w.heap.size + 1) w2 v 3 i; simpa using hA
  have HK : Hid (Kept w.heap.size w w2) := (Kept.alloc (Kept.refl _ _) (Nat.le_refl _) _).trans (hK.mono (by simp))
  clear hA hK
  unfold noTok
  go_wp2
  exact bodyPost_ret (v := noTok v) (by simp [results, Tryd.results37, go_sem, noTok, c0, c1, c2]) rfl ⟨_, rfl, (((HA.out.set (by simp) _).set (by simp) _).set (by simp) _).mono (by omega), Kept.setCell (Kept.setCell (Kept.setCell HK.out (by simp) _) (by simp) _) (by simp) _⟩

set_option maxHeartbeats 1000000 in
set_option maxRecDepth 100000 in
theorem next_mark (s : ByteArray) (bs : List Nat) (i : Nat) (w : World) (hs : Spells s bs) (hl : s.size ≤ 100000) (hi : i < s.size) (x : Nat) (hx : x = bs.getD i 0) (hlet : isLet (bs.getD i 0) = false) (hdig : isDig (bs.getD i 0) = false) (hq : bs.getD i 0 ≠ 34) (hmark : isMark (bs.getD i 0) = true) :
    Calls Tryd.prog 37 #[.string s, .int .i64 (i : Int)] w fun e w' => ∃ sb, e = .returned (tokRes 4 sb i 1) ∧ Spells sb ((bs.drop i).take 1) ∧ Kept w.heap.size w w' := by
  have HC : Hid (Spells (s.extract i (i + 1)) ((bs.drop i).take 1)) := cut_n hs hi
  have hx256 : bs.getD i 0 < 256 := byte_lt hs _
  have hget : (s[i]'hi).toNat = bs.getD i 0 := hs.get i hi
  have HX : Hid (x = bs.getD i 0) := hx
  rw [← hx] at hget hx256
  clear hx
  have hL : isLet x = false := by rw [HX.out]; exact hlet
  clear hlet
  have hD : isDig x = false := by rw [HX.out]; exact hdig
  clear hdig
  have hM : isMark x = true := by rw [HX.out]; exact hmark
  have hx34 : x ≠ 34 := by rw [HX.out]; exact hq
  have hb : ((x : Int) == 34) = false := by rw [beq_eq_false_iff_ne]; omega
  clear hmark hq hx34
  go_enter Tryd.func37, Tryd.ntmps37
  go_wp2_with fail
  refine (letter_tells.call x _ hx256).mono ?_
  rw [hL]
  rintro e w1 ⟨rfl, rfl⟩
  go_wp2_with fail
  refine (digit_tells.call x _ hx256).mono ?_
  rw [hD]
  rintro e w1 ⟨rfl, rfl⟩
  go_wp2_with fail
  refine (indexS_any x hx256 _).mono ?_
  rw [hM]
  rintro e w2 ⟨r, rfl, hr, rfl⟩
  have hr0 : 0 ≤ r := of_decide_eq_true hr
  clear hs hr
  go_wp2
  exact bodyPost_ret (v := tokRes 4 (s.extract i (i + 1)) i 1) (by simp [results, Tryd.results37, go_sem, tokRes]) rfl ⟨_, rfl, HC.out, Kept.alloc (Kept.refl _ _) (Nat.le_refl _) _⟩

set_option maxHeartbeats 1000000 in
set_option maxRecDepth 100000 in
theorem next_none (s : ByteArray) (bs : List Nat) (i : Nat) (w : World) (hs : Spells s bs) (hl : s.size ≤ 100000) (hi : i < s.size) (x : Nat) (hx : x = bs.getD i 0) (hlet : isLet (bs.getD i 0) = false) (hdig : isDig (bs.getD i 0) = false) (hq : bs.getD i 0 ≠ 34) (hmark : isMark (bs.getD i 0) = false) :
    Calls Tryd.prog 37 #[.string s, .int .i64 (i : Int)] w fun e w' => ∃ v, e = .returned (noTok v) ∧ AtErr w.heap.size w' v 3 i ∧ Kept w.heap.size w w' := by
  have hx256 : bs.getD i 0 < 256 := byte_lt hs _
  have hget : (s[i]'hi).toNat = bs.getD i 0 := hs.get i hi
  have HX : Hid (x = bs.getD i 0) := hx
  rw [← hx] at hget hx256
  clear hx
  have hL : isLet x = false := by rw [HX.out]; exact hlet
  clear hlet
  have hD : isDig x = false := by rw [HX.out]; exact hdig
  clear hdig
  have hM : isMark x = false := by rw [HX.out]; exact hmark
  have hx34 : x ≠ 34 := by rw [HX.out]; exact hq
  have hb : ((x : Int) == 34) = false := by rw [beq_eq_false_iff_ne]; omega
  clear hmark hq hx34
  go_enter Tryd.func37, Tryd.ntmps37
  go_wp2_with fail
  refine (letter_tells.call x _ hx256).mono ?_
  rw [hL]
  rintro e w1 ⟨rfl, rfl⟩
  go_wp2_with fail
  refine (digit_tells.call x _ hx256).mono ?_
  rw [hD]
  rintro e w1 ⟨rfl, rfl⟩
  go_wp2_with fail
  refine (indexS_any x hx256 _).mono ?_
  rw [hM]
  rintro e w2 ⟨r, rfl, hr, rfl⟩
  have hr0 : r < 0 := by have := of_decide_eq_false hr; omega
  clear hs hr
  go_wp2_with fail
  refine (wrong_any 3 i _).mono ?_
  rintro e w2 ⟨v, rfl, hA, hK⟩
  have c0 : w2.cell? ⟨w.heap.size, 0, none⟩ = some (.int .i64 0) := by rw [hK.cell (by simp)]; simp
  have c1 : w2.cell? ⟨w.heap.size, 1, none⟩ = some (.string ⟨#[]⟩) := by rw [hK.cell (by simp)]; simp
  have c2 : w2.cell? ⟨w.heap.size, 2, none⟩ = some (.int .i64 0) := by rw [hK.cell (by simp)]; simp
  have f0 : w2.frozen? ⟨w.heap.size, 0, none⟩ = false := by rw [hK.frozen (by simp)]; simp
  have f1 : w2.frozen? ⟨w.heap.size, 1, none⟩ = false := by rw [hK.frozen (by simp)]; simp
  have f2 : w2.frozen? ⟨w.heap.size, 2, none⟩ = false := by rw [hK.frozen (by simp)]; simp
  have HA : Hid (AtErr (w.heap.size + 1) w2 v 3 i) := by show AtErr (w.heap.size + 1) w2 v 3 i; simpa using hA
  have HK : Hid (Kept w.heap.size w w2) := (Kept.alloc (Kept.refl _ _) (Nat.le_refl _) _).trans (hK.mono (by simp))
  clear hA hK
  unfold noTok
  go_wp2
  exact bodyPost_ret (v := noTok v) (by simp [results, Tryd.results37, go_sem, noTok, c0, c1, c2]) rfl ⟨_, rfl, (((HA.out.set (by simp) _).set (by simp) _).set (by simp) _).mono (by omega), Kept.setCell (Kept.setCell (Kept.setCell HK.out (by simp) _) (by simp) _) (by simp) _⟩

end Go.Proofs.YticgkjcdhmejcaaDoor
