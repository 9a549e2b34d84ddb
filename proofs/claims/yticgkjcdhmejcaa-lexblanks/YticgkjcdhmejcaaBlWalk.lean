/- The walk of LexBlanks. -/
import Derived.Test.YticgkjcdhmejcaaBlHold
import Derived.Deep.QuietTactic
import Derived.BigQuiet
namespace Go.Proofs.Yticgkjcdhmejcaa
open Go.RowKit
set_option linter.unusedVariables false
set_option linter.unusedSimpArgs false

theorem bodies_take (ts : List Tk) (i : Nat) : bodies (ts.take i) ≤ bodies ts := by
  induction ts generalizing i with
  | nil => simp [bodies]
  | cons t ts ih =>
    cases i with
    | zero => simp [bodies]
    | succ i => simp only [List.take_succ_cons, bodies]; have := ih i; omega
theorem bodies_mem {ts : List Tk} {t : Tk} (h : t ∈ ts) : (bodyOf t).length ≤ bodies ts := by
  induction ts with
  | nil => cases h
  | cons x ts ih =>
    simp only [bodies]
    rcases List.mem_cons.1 h with rfl | h
    · omega
    · have := ih h; omega

/-- The list of numbers that came in. -/
def HowRow (w : World) (ha : Option Addr) (hn hc : Nat) : Prop :=
  hn = 0 ∨ ∃ hb ho, ha = some ⟨hb, ho, none⟩ ∧ hb < w.heap.size ∧ hn ≤ hc ∧ ∀ j, j < hn → ∃ z : Int, w.cell? ⟨hb, ho + j, none⟩ = some (.int .i64 z) ∧ -9223372036854775808 ≤ z ∧ z ≤ 9223372036854775807

/-- What holds at each round's head. -/
structure BRel (w2 : World) (ts : List Tk) (va vi : Value) (wr : World) (i : Nat) (ps : List (Nat × Tk)) (p v : Value) : Prop where
  vi : vi = .int .i64 (i : Int)
  il : i ≤ ts.length
  snd : ps.map Prod.snd = ts.take i
  bh : BH w2 w2.heap.size p v va (outv ps) (places ps) wr

theorem brel_len {w2 : World} {ts : List Tk} {va vi : Value} {wr : World} {i : Nat} {ps : List (Nat × Tk)} {p v : Value} (h : BRel w2 ts va vi wr i ps p v) : ps.length = i := by
  have := congrArg List.length h.snd
  simp at this
  have := h.il
  omega
theorem brel_out {w2 : World} {ts : List Tk} {va vi : Value} {wr : World} {i : Nat} {ps : List (Nat × Tk)} {p v : Value} (h : BRel w2 ts va vi wr i ps p v) (hb : bodies ts ≤ 1000) : (outv ps).length ≤ i * 10 + 1000 := by
  have h1 := outv_length ps
  rw [h.snd, brel_len h] at h1
  have := bodies_take ts i
  omega
theorem brel_step {w2 : World} {ts : List Tk} {va vi : Value} {wr : World} {i : Nat} {ps : List (Nat × Tk)} {p v p' v' va' : Value} {w' : World} (h : BRel w2 ts va vi wr i ps p v) (hlt : i < ts.length) (k : Nat)
    (H : BH w2 w2.heap.size p' v' va' (outv ps ++ sepv k ++ bodyOf ts[i]) (places ps ++ [(outv ps ++ sepv k).length]) w') : BRel w2 ts va' (.int .i64 ((i + 1 : Nat) : Int)) w' (i + 1) (ps ++ [(k, ts[i])]) p' v' := by
  refine ⟨rfl, hlt, ?_, ?_⟩
  · rw [List.map_append, h.snd, List.take_succ_eq_append_getElem hlt]; rfl
  · rw [outv_app, places_app]
    simpa using H

theorem spells_quoted {l : List Nat} (h : ∀ x ∈ l, x < 256) : Spells (⟨#[34]⟩ ++ str l ++ ⟨#[34]⟩) (34 :: (l ++ [34])) := by
  have e : (⟨#[34]⟩ ++ str l ++ ⟨#[34]⟩ : ByteArray) = str (34 :: (l ++ [34])) := by
    rw [show (34 :: (l ++ [34]) : List Nat) = [34] ++ l ++ [34] by simp, str_app, str_app]; rfl
  rw [e]
  refine str_spells fun x hx => ?_
  simp at hx
  rcases hx with rfl | hx | rfl
  · decide
  · exact h x hx
  · decide

theorem own_places {w : World} {B : Nat} {va : Value} {ps : List Nat} (h : w.ownsRow B 3 1 va ps.length (intCells ps)) (hne : ps ≠ []) : ∃ g cap, va = .slice (some ⟨g, 0, none⟩) ps.length cap ∧ ps.length ≤ cap ∧ g < w.heap.size ∧ ∀ j, j < ps.length → w.cell? ⟨g, j, none⟩ = some (.int .i64 ((ps.getD j 0 : Nat) : Int)) := by
  rcases h.2 with ⟨_, h0⟩ | ⟨g, cap, cur, hv, _, hg, hnc, _, _, htake⟩
  · exact absurd (List.eq_nil_of_length_eq_zero h0) hne
  · refine ⟨g, cap, hv, hnc, heap_lt hg, fun j hj => ?_⟩
    have e1 : (intCells ps)[j]? = some (.int .i64 ((ps.getD j 0 : Nat) : Int)) := by simp [intCells, hj]
    rw [Lib.cell_of_heap hg, ← e1, ← htake, List.getElem?_take]
    simp [hj]

theorem newToks_fst (ps : List (Nat × Tk)) (i k : Nat) (hk : k < ps.length) : ((newToks i ps)[k]'(by rw [newToks_length]; exact hk)).kind = (ps[k]).2.kind ∧ ((newToks i ps)[k]'(by rw [newToks_length]; exact hk)).text = (ps[k]).2.text := by
  induction ps generalizing i k with
  | nil => simp at hk
  | cons q ps ih =>
    cases k with
    | zero => exact ⟨rfl, rfl⟩
    | succ k => simpa [newToks] using ih (i + (sepv q.1).length + (bodyOf q.2).length) k (by simpa using hk)
theorem bytes_outv {bs : List Nat} {ts : List Tk} (hts : ∀ t ∈ ts, ∀ x ∈ t.text, x < 256) (ps : List (Nat × Tk)) (hp : ∀ q ∈ ps, q.2 ∈ ts) : ∀ x ∈ outv ps, x < 256 := by
  induction ps with
  | nil => intro x hx; cases hx
  | cons q ps ih =>
    intro x hx
    simp only [outv, List.mem_append] at hx
    rcases hx with hx | hx | hx
    · exact sep_lt _ x hx
    · have hq := hts q.2 (hp q (by simp))
      unfold bodyOf at hx
      split at hx
      · simp at hx
        rcases hx with rfl | hx | rfl
        · decide
        · exact hq x hx
        · decide
      · exact hq x hx
    · exact ih (fun q hq => hp q (by simp [hq])) x hx

theorem first_mem (r : List Nat) : ∀ x ∈ (first r).2.1, x ∈ r := by
  unfold first
  repeat' split
  all_goals first
    | (intro x hx; exact List.mem_of_mem_take hx)
    | (intro x hx; exact List.mem_of_mem_drop (List.mem_of_mem_take hx))
    | (intro x hx; cases hx)
theorem lexv_mem (f i : Nat) (r : List Nat) (ts : List Tk) (h : lexv f i r = .ok ts) : ∀ t ∈ ts, ∀ x ∈ t.text, x ∈ r := by
  induction f generalizing i r ts with
  | zero => unfold lexv at h; injection h with h; subst h; intro t ht; cases ht
  | succ f ih =>
    unfold lexv at h
    split at h
    · injection h with h; subst h
      intro t ht x hx
      simp at ht; subst ht; cases hx
    · split at h
      · intro t ht x hx
        exact List.mem_of_mem_drop (ih _ _ _ h t ht x hx)
      · split at h
        · rcases hr : lexv f (i + (first r).2.2) (r.drop (first r).2.2) with e | l
          · rw [hr] at h; cases h
          · rw [hr] at h
            injection h with h; subst h
            intro t ht x hx
            rcases List.mem_cons.1 ht with rfl | ht
            · exact first_mem r x hx
            · exact List.mem_of_mem_drop (ih _ _ _ hr t ht x hx)
        · cases h

theorem lexv_many (f i : Nat) (r : List Nat) (ts : List Tk) (h : lexv f i r = .ok ts) : ts.length ≤ r.length + 1 := by
  induction f generalizing i r ts with
  | zero => unfold lexv at h; injection h with h; subst h; simp
  | succ f ih =>
    unfold lexv at h
    split at h
    · injection h with h; subst h; simp
    · rename_i h0
      split at h
      · have := ih _ _ _ h; simp at this; omega
      · split at h
        · rename_i h10
          have hl := first_len h0 h10
          rcases hr : lexv f (i + (first r).2.2) (r.drop (first r).2.2) with e | l
          · rw [hr] at h; cases h
          · rw [hr] at h
            injection h with h; subst h
            have := ih _ _ _ hr
            simp at this ⊢; omega
        · cases h

set_option maxHeartbeats 8000000 in
set_option maxRecDepth 100000 in
theorem blanks_small (s : ByteArray) (bs : List Nat) (ha : Option Addr) (hn hc : Nat) (w : World) (hs : Spells s bs) (hlen : s.size ≤ 1000) (hhow : hn ≤ 100) (hrow : HowRow w ha hn hc) :
    Calls Try.prog 5 #[.string s, .slice ha hn hc] w fun e w' => e = .returned (.bool true) ∧ Kept w.heap.size w w' := by
  obtain ⟨i0, hi0, hz0, hz1, hz2⟩ := info_parts info_int
  have HROW : Hid (HowRow w ha hn hc) := hrow
  have HSZ : Hid (s.size = bs.length) := hs.size
  have HSP : Hid (Spells s bs) := hs
  clear hrow hs
  go_enter Try.func5, Try.ntmps5
  go_wp2_with fail
  refine (bfact_any _).mono ?_
  rintro e w1 ⟨rfl, hk1⟩
  go_wp2_with fail
  refine (lsplit_any HSP.out (by omega)).mono ?_
  rintro e w2 (⟨c, p, v, ht, rfl, hA, hk2⟩ | ⟨ts, ao, b, off, cap, ht, rfl, hT⟩)
  · obtain ⟨bb, rfl, _⟩ := hA
    have HK : Hid (Kept w.heap.size w w2) := hk1.trans (hk2.mono hk1.size)
    clear hk2 hk1 ht
    go_wp2
    go_ret
    exact ⟨rfl, HK.out⟩
  · have HT : Hid (toks 0 bs = .ok ts) := ht
    have HK2 : Hid (Kept w.heap.size w w2) := hk1.trans (hT.kept.mono hk1.size)
    have HC : Hid (Came w2 3 ao b off ts.length cap (tflat ts)) := hT.came
    have HG : Hid (GoodL ts ∧ bodies ts ≤ bs.length) := toks_good ht
    have HMEM : Hid (∀ t ∈ ts, ∀ x ∈ t.text, x < 256) := fun t h x hx => HSP.out.lt x (lexv_mem _ _ _ _ ht t h x hx)
    have hmany : ts.length ≤ 1001 := by
      have := lexv_many _ _ _ _ ht
      have := HSZ.out
      omega
    have HBOD : Hid (bodies ts ≤ 1000) := by
      show bodies ts ≤ 1000
      have := HG.out.2
      have := HSZ.out
      omega
    clear ht hT hk1
    go_wp2
    go_loopw [8, 9] (fun va vi wr => ∃ i ps p v, BRel w2 ts va vi wr i ps p v) (fun _ vi _ => ts.length - (intOf vi).toNat)
    case atStart => exact ⟨0, [], _, _, rfl, Nat.zero_le _, rfl, bh_start w2⟩
    case round =>
      obtain ⟨i, ps, p, v, R⟩ := hrel
      have hvi := R.vi
      subst hvi
      have hil := R.il

      have HR : Hid (BRel w2 ts _ (.int .i64 (i : Int)) wr i ps p v) := R
      have H := R.bh
      have hout : (outv ps).length ≤ i * 10 + 1000 := brel_out R HBOD.out
      clear R
      by_cases hlt : i < ts.length
      · obtain ⟨t, ht⟩ : ∃ t, ts[i] = t := ⟨_, rfl⟩
        have HTI : Hid (ts[i] = t) := ht
        have htm : t ∈ ts := by rw [← ht]; exact List.getElem_mem hlt
        obtain ⟨m0, m1, _⟩ := t_facts HC.out H.kept hlt ht
        have hla : ao = some ⟨b, off, none⟩ := HC.out.addr (by have := HC.out.le; omega)
        have hlc := HC.out.le
        have hbl : b < w2.heap.size := HC.out.lt (by omega)
        have hbody : (bodyOf t).length ≤ 1000 := by have := bodies_mem htm; have := HBOD.out; omega
        have HTX : Hid (∀ x ∈ t.text, x < 256) := HMEM.out t htm
        subst hla
        clear ht htm
        have hii : (i : Int) < (ts.length : Int) := by omega
        rcases Nat.eq_zero_or_pos hn with h0 | h0
        · have hle0 : (hn : Int) ≤ 0 := by omega
          clear h0
          obtain ⟨hsl1, hsl2⟩ := sep_len 0
          have hsc := sep_cell wr 0 (by omega)
          have hss : Spells (str (sepv 0)) (sepv 0) := str_spells (sep_lt 0)
          have hssz : (str (sepv 0)).size ≤ 10 := by rw [hss.size]; exact hsl2
          have HSS : Hid (Spells (str (sepv 0)) (sepv 0)) := hss
          have HA : Hid _ := H.alloc (.cells #[.string ⟨#[32]⟩, .string ⟨#[10]⟩, .string ⟨#[32, 47, 47, 32, 123, 32, 48, 32, 34, 10]⟩, .string ⟨#[32, 32, 10, 32]⟩] 9)
          clear hss
          go_wp2_with fail
          refine (write_any (str (sepv 0)) HA.out.bd HA.out.ptr HSS.out (by omega) (Nat.le_of_lt HA.out.lt)).mono ?_
          rintro e w3 ⟨rfl, v3, hb3, hk3, ho3, hs3⟩
          have H3 := HA.out.wrote hb3 hk3 ho3 hs3
          have hx3 : (outv ps ++ sepv 0).length ≤ i * 10 + 1010 := by rw [List.length_append]; omega
          obtain ⟨n3, hn3⟩ : ∃ n3, n3 = (outv ps ++ sepv 0).length := ⟨_, rfl⟩
          have HN3 : Hid (n3 = (outv ps ++ sepv 0).length) := hn3
          have CL := len_any H3.bd
          rw [← hn3] at CL hx3
          have HX3 : Hid ((outv ps ++ sepv 0).length ≤ i * 10 + 1010) := by rw [← hn3]; exact hx3
          clear hb3 hk3 ho3 hs3 hsc HA H m0 m1 hn3
          go_wp2_with fail
          refine CL.mono ?_
          rintro e w4 ⟨rfl, rfl⟩
          clear CL
          have H4 := H3.alloc (.cells #[.int .i64 (n3 : Int)] 3)
          have hrow4 := H4.row
          have hpl : (places ps).length = i := by rw [places_length]; exact brel_len HR.out
          have hpl2 : (places ps).length ≤ 1001 := by omega
          have HPL : Hid ((places ps).length = i) := hpl
          have hnews : ∀ j u, ([.int .i64 (n3 : Int)] : List Value)[j]? = some u → (w4.alloc (.cells #[.int .i64 (n3 : Int)] 3)).cell? ((⟨w4.heap.size, 0, none⟩ : Addr).add j) = some u := fun j u hj => by
            rw [Addr.add_lit, Nat.zero_add, World.cell?_alloc_new]
            simpa using hj
          have hsz4 : w2.heap.size ≤ (w4.alloc (.cells #[.int .i64 (n3 : Int)] 3)).heap.size := Nat.le_of_lt H4.lt
          clear H3 hpl
          go_wp2_with (at_builtin; refine wpList_append_own _ rfl (.tmp 52) (.tmp 54) 41 rfl w2.heap.size 3 i0 (.int .i64 0) 1 8 Try.underlying41 hi0 hz0 hz1 hz2 rfl (by decide) _ _ _ rfl hrow4 ⟨w4.heap.size, 0, none⟩ 1 1 [.int .i64 (n3 : Int)] rfl rfl hnews (by intro u hu; simp at hu; subst hu; rfl) (by unfold maxLen; omega) (by omega) hsz4 ?_)
          intro va' w5 hr5 hg5 _
          have H5 := H4.grew (qs := places ps ++ [n3]) (by
            rw [show intCells (places ps ++ [n3]) = intCells (places ps) ++ [.int .i64 (n3 : Int)] by simp [intCells], List.length_append]
            exact hr5) hg5
          obtain ⟨n0, n1, _⟩ := t_facts HC.out H5.kept hlt HTI.out
          clear hr5 hg5 hrow4 H4 hnews hsz4
          by_cases hk3 : t.kind = 3
          · have hbo : bodyOf t = 34 :: (t.text ++ [34]) := by unfold bodyOf; rw [if_pos hk3]
            have hq := spells_quoted HTX.out
            have hqs : (⟨#[34]⟩ ++ str t.text ++ ⟨#[34]⟩ : ByteArray).size ≤ 1000 := by
              rw [hq.size, ← hbo]; exact hbody
            have hts : (str t.text).size ≤ 1000 := by
              rw [str_size]
              rw [hbo] at hbody
              simp at hbody; omega
            have HQ : Hid _ := hq
            have HBO : Hid (bodyOf t = 34 :: (t.text ++ [34])) := hbo
            have n0' : w5.cell? ⟨b, off + i * 3, none⟩ = some (.int .i64 3) := by rw [n0, hk3]; rfl
            clear hq hbo n0 hk3
            go_wp2_with fail
            refine (write_any _ H5.bd H5.ptr HQ.out (by have := HX3.out; omega) (Nat.le_of_lt H5.lt)).mono ?_
            rintro e w6 ⟨rfl, v6, hb6, hk6, ho6, hs6⟩
            have H6 := H5.wrote hb6 hk6 ho6 hs6
            have ST := brel_step HR.out hlt 0 (by rw [HTI.out, HBO.out, ← HN3.out]; exact H6)
            have HST : Hid _ := ST
            clear ST H6 hb6 hk6 ho6 hs6 H5 n1 n0'
            go_wp2
            refine ⟨⟨_, _, _, _, HST.out⟩, ?_⟩
            simp only [intOf]; omega
          · have hbo : bodyOf t = t.text := by unfold bodyOf; rw [if_neg hk3]
            have hq : Spells (str t.text) t.text := str_spells HTX.out
            have hts : (str t.text).size ≤ 1000 := by rw [str_size, ← hbo]; exact hbody
            have HQ : Hid (Spells (str t.text) t.text) := hq
            have HBO : Hid (bodyOf t = t.text) := hbo
            have hkb : ((t.kind : Int) == 3) = false := by rw [beq_eq_false_iff_ne]; omega
            clear hq hbo hk3
            go_wp2_with fail
            refine (write_any _ H5.bd H5.ptr HQ.out (by have := HX3.out; omega) (Nat.le_of_lt H5.lt)).mono ?_
            rintro e w6 ⟨rfl, v6, hb6, hk6, ho6, hs6⟩
            have H6 := H5.wrote hb6 hk6 ho6 hs6
            have ST := brel_step HR.out hlt 0 (by rw [HTI.out, HBO.out, ← HN3.out]; exact H6)
            have HST : Hid _ := ST
            clear ST H6 hb6 hk6 ho6 hs6 H5 n1 n0
            go_wp2
            refine ⟨⟨_, _, _, _, HST.out⟩, ?_⟩
            simp only [intOf]; omega
        · have hpos : (0 : Int) < (hn : Int) := by omega
          rcases HROW.out with hh | ⟨hb, ho, hha, hhl, hhc, hcells⟩
          · omega
          · subst hha
            obtain ⟨j, hj⟩ : ∃ j, j = i % hn := ⟨_, rfl⟩
            have hjn : j < hn := by rw [hj]; exact Nat.mod_lt _ h0
            have hjm : (i : Int).tmod (hn : Int) = (j : Int) := by rw [Int.tmod_eq_emod_of_nonneg (by omega), hj]; exact (Int.natCast_emod i hn).symm
            have hjm2 : (i : Int) % (hn : Int) = (j : Int) := by rw [hj]; exact (Int.natCast_emod i hn).symm
            obtain ⟨z, hz, hzl, hzh⟩ := hcells j hjn
            have hz4 : wr.cell? ⟨hb, ho + j, none⟩ = some (.int .i64 z) := by
              have e1 := (HK2.out.cell (p := ⟨hb, ho + j, none⟩) hhl).trans hz
              exact (H.kept.cell (p := ⟨hb, ho + j, none⟩) (by have := HK2.out.size; show hb < w2.heap.size; omega)).trans e1
            have hji : (j : Int) < (hn : Int) := by omega
            clear hj hcells hz
            go_wp2_with fail
            refine (pick_any z _ hzl hzh).mono ?_
            rintro e wx ⟨k, hk4, rfl, rfl⟩
            clear hz4 hjm hjm2
            obtain ⟨hsl1, hsl2⟩ := sep_len k
            have hsc := sep_cell wx k hk4
            have hss : Spells (str (sepv k)) (sepv k) := str_spells (sep_lt k)
            have hssz : (str (sepv k)).size ≤ 10 := by rw [hss.size]; exact hsl2
            have hka : (k : Int) < 4 := by omega
            have HSS : Hid (Spells (str (sepv k)) (sepv k)) := hss
            have HA : Hid _ := H.alloc (.cells #[.string ⟨#[32]⟩, .string ⟨#[10]⟩, .string ⟨#[32, 47, 47, 32, 123, 32, 48, 32, 34, 10]⟩, .string ⟨#[32, 32, 10, 32]⟩] 9)
            clear hss
            go_wp2_with fail
            refine (write_any (str (sepv k)) HA.out.bd HA.out.ptr HSS.out (by omega) (Nat.le_of_lt HA.out.lt)).mono ?_
            rintro e w3 ⟨rfl, v3, hb3, hk3, ho3, hs3⟩
            have H3 := HA.out.wrote hb3 hk3 ho3 hs3
            have hx3 : (outv ps ++ sepv k).length ≤ i * 10 + 1010 := by rw [List.length_append]; omega
            obtain ⟨n3, hn3⟩ : ∃ n3, n3 = (outv ps ++ sepv k).length := ⟨_, rfl⟩
            have HN3 : Hid (n3 = (outv ps ++ sepv k).length) := hn3
            have CL := len_any H3.bd
            rw [← hn3] at CL hx3
            have HX3 : Hid ((outv ps ++ sepv k).length ≤ i * 10 + 1010) := by rw [← hn3]; exact hx3
            clear hb3 hk3 ho3 hs3 hsc HA H m0 m1 hn3
            go_wp2_with fail
            refine CL.mono ?_
            rintro e w4 ⟨rfl, rfl⟩
            clear CL
            have H4 := H3.alloc (.cells #[.int .i64 (n3 : Int)] 3)
            have hrow4 := H4.row
            have hpl : (places ps).length = i := by rw [places_length]; exact brel_len HR.out
            have hpl2 : (places ps).length ≤ 1001 := by omega
            have HPL : Hid ((places ps).length = i) := hpl
            have hnews : ∀ j u, ([.int .i64 (n3 : Int)] : List Value)[j]? = some u → (w4.alloc (.cells #[.int .i64 (n3 : Int)] 3)).cell? ((⟨w4.heap.size, 0, none⟩ : Addr).add j) = some u := fun j u hj => by
              rw [Addr.add_lit, Nat.zero_add, World.cell?_alloc_new]
              simpa using hj
            have hsz4 : w2.heap.size ≤ (w4.alloc (.cells #[.int .i64 (n3 : Int)] 3)).heap.size := Nat.le_of_lt H4.lt
            clear H3 hpl
            go_wp2_with (at_builtin; refine wpList_append_own _ rfl (.tmp 52) (.tmp 54) 41 rfl w2.heap.size 3 i0 (.int .i64 0) 1 8 Try.underlying41 hi0 hz0 hz1 hz2 rfl (by decide) _ _ _ rfl hrow4 ⟨w4.heap.size, 0, none⟩ 1 1 [.int .i64 (n3 : Int)] rfl rfl hnews (by intro u hu; simp at hu; subst hu; rfl) (by unfold maxLen; omega) (by omega) hsz4 ?_)
            intro va' w5 hr5 hg5 _
            have H5 := H4.grew (qs := places ps ++ [n3]) (by
              rw [show intCells (places ps ++ [n3]) = intCells (places ps) ++ [.int .i64 (n3 : Int)] by simp [intCells], List.length_append]
              exact hr5) hg5
            obtain ⟨n0, n1, _⟩ := t_facts HC.out H5.kept hlt HTI.out
            clear hr5 hg5 hrow4 H4 hnews hsz4
            by_cases hk3 : t.kind = 3
            · have hbo : bodyOf t = 34 :: (t.text ++ [34]) := by unfold bodyOf; rw [if_pos hk3]
              have hq := spells_quoted HTX.out
              have hqs : (⟨#[34]⟩ ++ str t.text ++ ⟨#[34]⟩ : ByteArray).size ≤ 1000 := by
                rw [hq.size, ← hbo]; exact hbody
              have hts : (str t.text).size ≤ 1000 := by
                rw [str_size]
                rw [hbo] at hbody
                simp at hbody; omega
              have HQ : Hid _ := hq
              have HBO : Hid (bodyOf t = 34 :: (t.text ++ [34])) := hbo
              have n0' : w5.cell? ⟨b, off + i * 3, none⟩ = some (.int .i64 3) := by rw [n0, hk3]; rfl
              clear hq hbo n0 hk3
              go_wp2_with fail
              refine (write_any _ H5.bd H5.ptr HQ.out (by have := HX3.out; omega) (Nat.le_of_lt H5.lt)).mono ?_
              rintro e w6 ⟨rfl, v6, hb6, hk6, ho6, hs6⟩
              have H6 := H5.wrote hb6 hk6 ho6 hs6
              have ST := brel_step HR.out hlt k (by rw [HTI.out, HBO.out, ← HN3.out]; exact H6)
              have HST : Hid _ := ST
              clear ST H6 hb6 hk6 ho6 hs6 H5 n1 n0'
              go_wp2
              refine ⟨⟨_, _, _, _, HST.out⟩, ?_⟩
              simp only [intOf]; omega
            · have hbo : bodyOf t = t.text := by unfold bodyOf; rw [if_neg hk3]
              have hq : Spells (str t.text) t.text := str_spells HTX.out
              have hts : (str t.text).size ≤ 1000 := by rw [str_size, ← hbo]; exact hbody
              have HQ : Hid (Spells (str t.text) t.text) := hq
              have HBO : Hid (bodyOf t = t.text) := hbo
              have hkb : ((t.kind : Int) == 3) = false := by rw [beq_eq_false_iff_ne]; omega
              clear hq hbo hk3
              go_wp2_with fail
              refine (write_any _ H5.bd H5.ptr HQ.out (by have := HX3.out; omega) (Nat.le_of_lt H5.lt)).mono ?_
              rintro e w6 ⟨rfl, v6, hb6, hk6, ho6, hs6⟩
              have H6 := H5.wrote hb6 hk6 ho6 hs6
              have ST := brel_step HR.out hlt k (by rw [HTI.out, HBO.out, ← HN3.out]; exact H6)
              have HST : Hid _ := ST
              clear ST H6 hb6 hk6 ho6 hs6 H5 n1 n0
              go_wp2
              refine ⟨⟨_, _, _, _, HST.out⟩, ?_⟩
              simp only [intOf]; omega
      · have hE : i = ts.length := by omega
        have hps : ps.map Prod.snd = ts := by rw [HR.out.snd, hE, List.take_length]
        have hpl : ps.length = ts.length := by rw [brel_len HR.out, hE]
        have hpne : ps ≠ [] := by
          rintro rfl
          have h1 := HG.out.1
          rw [← hps] at h1
          exact h1
        have HRE : Hid (toks 0 (outv ps) = .ok (newToks 0 ps)) := relex ps 0 (by rw [hps]; exact HG.out.1)
        have hone : outv ps ≠ [] := by
          cases ps with
          | nil => exact absurd rfl hpne
          | cons q r =>
            intro e
            have h1 := sep_len q.1
            have h2 := congrArg List.length e
            simp only [outv, List.length_append, List.length_nil] at h2
            omega
        have hob : ∀ x ∈ outv ps, x < 256 := bytes_outv (bs := bs) HMEM.out ps (fun q hq => by rw [← hps]; exact List.mem_map.2 ⟨q, hq, rfl⟩)
        have hosz : (outv ps).length ≤ 20000 := by omega
        have hppl : (places ps).length = ts.length := by rw [places_length]; exact hpl
        have hppne : places ps ≠ [] := by
          intro e
          have h1 := congrArg List.length e
          rw [places_length] at h1
          exact hpne (List.eq_nil_of_length_eq_zero h1)
        have CS := string_any H.bd hone hob (Nat.le_of_lt H.lt)
        have HOB : Hid (∀ x ∈ outv ps, x < 256) := hob
        have HPS : Hid (ps.map Prod.snd = ts) := hps
        have HPL : Hid (ps.length = ts.length) := hpl
        have HPPL : Hid ((places ps).length = ts.length) := hppl
        have hge : (ts.length : Int) ≤ (i : Int) := by omega
        clear hob hone hps hpl hppl hE
        go_wp2_with fail
        refine CS.mono ?_
        rintro e w7 ⟨rfl, hk7, ho7⟩
        have hrow7 := own_others H.row H.bd ho7
        have HK7 : Hid (Kept w2.heap.size w2 w7) := H.kept.trans hk7
        obtain ⟨g, acap, hva, hac, hgl, hcells⟩ := own_places hrow7 hppne
        rw [HPPL.out] at hva hac
        have HCELL : Hid (∀ j, j < ts.length → w7.cell? ⟨g, j, none⟩ = some (.int .i64 (((places ps).getD j 0 : Nat) : Int))) := fun j hj => hcells j (by rw [HPPL.out]; exact hj)
        clear hcells hrow7 hk7 ho7 H CS hppne hpne
        subst hva
        go_wp2_with fail
        refine (lsplit_any (str_spells HOB.out) (by rw [str_size]; omega)).mono ?_
        rintro e w8 (⟨c, p, v, ht, _⟩ | ⟨ms, mo, mb, mf, mc, ht, rfl, hM⟩)
        · rw [HRE.out] at ht; cases ht
        · rw [HRE.out] at ht
          injection ht with ht
          have HMS : Hid (newToks 0 ps = ms) := ht
          have hml : ms.length = ts.length := by rw [← ht, newToks_length]; exact HPL.out
          have HML : Hid (ms.length = ts.length) := hml
          have HMC : Hid (Came w8 3 mo mb mf ms.length mc (tflat ms)) := hM.came
          have HK8 : Hid (Kept w7.heap.size w7 w8) := hM.kept
          have HK28 : Hid (Kept w2.heap.size w2 w8) := HK7.out.trans (hM.kept.mono HK7.out.size)
          have HKW8 : Hid (Kept w.heap.size w w8) := HK2.out.trans (HK28.out.mono HK2.out.size)
          clear ht hM
          go_wp2
          go_loopw [12] (fun vi wq => ∃ k : Nat, k ≤ ts.length ∧ vi = .int .i64 k ∧ Kept w8.heap.size w8 wq) (fun vi _ => ts.length - (intOf vi).toNat)
          case atStart => exact ⟨0, Nat.zero_le _, rfl, Kept.refl _ _⟩
          case round =>
            obtain ⟨k, hk, rfl, hkr⟩ := hrel
            by_cases hlt2 : k < ts.length
            · have hkm : k < ms.length := by rw [HML.out]; exact hlt2
              have hkp : k < ps.length := by rw [HPL.out]; exact hlt2
              obtain ⟨t, ht⟩ : ∃ t, ts[k] = t := ⟨_, rfl⟩
              obtain ⟨t2, ht2⟩ : ∃ t2, ms[k] = t2 := ⟨_, rfl⟩
              have hpt : (ps[k]).2 = t := by
                rw [← ht]
                have e1 : (ps.map Prod.snd)[k]? = ts[k]? := by rw [HPS.out]
                simp [hkp, hlt2] at e1
                exact e1
              have hfst := newToks_fst ps 0 k hkp
              have hm2 : (newToks 0 ps)[k]'(by rw [newToks_length]; exact hkp) = t2 := by
                have e := HMS.out; subst e; exact ht2
              rw [hm2, hpt] at hfst
              have hplace : (places ps).getD k 0 = t2.place := by
                have hnl : k < (newToks 0 ps).length := by rw [newToks_length]; exact hkp
                rw [← hm2]
                simp [places, hnl]
              obtain ⟨a0, a1, a2⟩ := t_facts HMC.out hkr hkm ht2
              rw [hfst.1] at a0
              rw [hfst.2] at a1
              obtain ⟨b0, b1, _⟩ := t_facts HC.out (HK28.out.trans (hkr.mono HK28.out.size)) hlt2 ht
              have c0 : wr.cell? ⟨g, k, none⟩ = some (.int .i64 (t2.place : Int)) := by
                have e1 := HCELL.out k hlt2
                rw [hplace] at e1
                exact ((hkr.cell (p := ⟨g, k, none⟩) (by have := HK8.out.size; show g < w8.heap.size; omega)).trans (HK8.out.cell (p := ⟨g, k, none⟩) hgl)).trans e1
              have hla : ao = some ⟨b, off, none⟩ := HC.out.addr (by have := HC.out.le; omega)
              have hma : mo = some ⟨mb, mf, none⟩ := HMC.out.addr (by have := HMC.out.le; omega)
              have hlc := HC.out.le
              have hmc : ts.length ≤ mc := by have := HMC.out.le; rw [HML.out] at this; exact this
              have hki : (k : Int) < (ts.length : Int) := by omega
              have HKR : Hid (Kept w8.heap.size w8 wr) := hkr
              subst hla hma
              clear ht ht2 hpt hfst hm2 hplace hkr hml hkm hkp
              go_wp2
              go_quiet (fail)
              have HK9 : Hid (Kept w8.heap.size w8 (wr.drewN nq)) := ⟨HKR.out.os, HKR.out.output, HKR.out.size, HKR.out.block⟩
              clear a0 a1 a2 b0 b1 c0 HKR
              generalize wr.drewN nq = w9 at *
              go_wp2
              refine ⟨⟨k + 1, by omega, by go_num, HK9.out⟩, ?_⟩
              simp [intOf]; omega
            · have HKE : Hid (Kept w.heap.size w wr) := HKW8.out.trans (hkr.mono HKW8.out.size)
              clear hkr
              go_wp2
              go_ret
              exact ⟨rfl, HKE.out⟩
end Go.Proofs.Yticgkjcdhmejcaa
