import Derived.Test.YtoopgmoopmbfnaaSn6
import Derived.Test.YtoopgmoopmbfnaaRf3
namespace Go.Proofs.Ytoopgmoopmbfnaa
open Go.RowKit Go.Proofs.Kv Go.Proofs.Snd

/-! ### what the library's Compact makes of an ascending list -/
theorem compactUpTo_asc {l : List Int} (hs : l.Pairwise (· ≤ ·)) : ∀ m, m ≤ l.length → (Lib.compactUpTo l.toArray m).Pairwise (· < ·) ∧ ∀ x, x ∈ Lib.compactUpTo l.toArray m ↔ ∃ j, j < m ∧ l.getD j 0 = x
  | 0, _ => by simp [Lib.compactUpTo]
  | m + 1, hm => by
    obtain ⟨h1, h2⟩ := compactUpTo_asc hs m (by omega)
    have hget : ∀ j, j < l.length → l.toArray[j]! = l.getD j 0 := fun j hj => by simp [List.getD, hj]
    have hle : ∀ i j, i < j → j < l.length → l.getD i 0 ≤ l.getD j 0 := fun i j hij hj => by
      have := (List.pairwise_iff_getElem.1 hs) i j (by omega) hj hij
      simpa [List.getD, hj, show i < l.length by omega] using this
    rw [Lib.compactUpTo_succ]
    by_cases hk : Lib.keeps l.toArray m = true
    · rw [if_pos hk, hget m (by omega)]
      refine ⟨List.pairwise_append.2 ⟨h1, by simp, fun x hx y hy => ?_⟩, fun x => ?_⟩
      · rw [List.mem_singleton] at hy
        subst hy
        obtain ⟨j, hj, rfl⟩ := (h2 x).1 hx
        have hne : m = 0 ∨ l.toArray[m]! ≠ l.toArray[m - 1]! := by simpa [Lib.keeps] using hk
        rcases hne with rfl | hne
        · omega
        · rw [hget m (by omega), hget (m - 1) (by omega)] at hne
          have a1 := hle (m - 1) m (by omega) (by omega)
          by_cases e : j = m - 1
          · subst e; omega
          · have a2 := hle j (m - 1) (by omega) (by omega); omega
      · rw [List.mem_append, h2 x, List.mem_singleton]
        constructor
        · rintro (⟨j, hj, rfl⟩ | rfl)
          · exact ⟨j, by omega, rfl⟩
          · exact ⟨m, by omega, rfl⟩
        · rintro ⟨j, hj, rfl⟩
          by_cases e : j = m
          · subst e; exact .inr rfl
          · exact .inl ⟨j, by omega, rfl⟩
    · rw [if_neg hk, List.append_nil]
      refine ⟨h1, fun x => ?_⟩
      rw [h2 x]
      have hne : ¬ (m = 0 ∨ l.toArray[m]! ≠ l.toArray[m - 1]!) := by simpa [Lib.keeps] using hk
      have hm0 : m ≠ 0 := fun e => hne (.inl e)
      have he : l.toArray[m]! = l.toArray[m - 1]! := Classical.byContradiction fun e => hne (.inr e)
      rw [hget m (by omega), hget (m - 1) (by omega)] at he
      constructor
      · rintro ⟨j, hj, rfl⟩; exact ⟨j, by omega, rfl⟩
      · rintro ⟨j, hj, rfl⟩
        by_cases e : j = m
        · subst e; exact ⟨j - 1, by omega, he.symm⟩
        · exact ⟨j, by omega, rfl⟩
theorem compact_asc {l : List Int} (hs : l.Pairwise (· ≤ ·)) : (Lib.compact l).Pairwise (· < ·) ∧ ∀ x, x ∈ Lib.compact l ↔ x ∈ l := by
  obtain ⟨h1, h2⟩ := compactUpTo_asc hs l.length (Nat.le_refl _)
  refine ⟨h1, fun x => (h2 x).trans ⟨?_, fun hx => ?_⟩⟩
  · rintro ⟨j, hj, rfl⟩; exact getD_mem hj
  · obtain ⟨k, hk, e⟩ := mem_getD hx; exact ⟨k, hk, e⟩
/-- the library's Sort and Compact -/
def sortC (l : List Int) : List Int := Lib.compact (l.mergeSort fun a b => decide (a ≤ b))
theorem sortC_asc (l : List Int) : (sortC l).Pairwise (· < ·) ∧ ∀ x, x ∈ sortC l ↔ x ∈ l := by
  have hs : (l.mergeSort fun a b => decide (a ≤ b)).Pairwise (· ≤ ·) :=
    (List.pairwise_mergeSort (le := fun a b : Int => decide (a ≤ b)) (fun a b c => by simp; omega) (fun a b => by simp; omega) l).imp (by simp)
  obtain ⟨h1, h2⟩ := compact_asc hs
  exact ⟨h1, fun x => by rw [show sortC l = Lib.compact _ from rfl, h2 x, List.mem_mergeSort]⟩

/-! ### slices.Compact of an own row -/
theorem compact_calls {B n : Nat} {v : Value} {l : List Int} {w : World} (hown : w.ownsRow B 3 1 v n (l.map (Value.int .i64))) (h0 : 0 < n) :
    Calls Try.prog 101 #[v] w fun e w' => ∃ v', e = .returned v' ∧ w'.ownsRow B 3 1 v' (Lib.compact l).length ((Lib.compact l).map (Value.int .i64)) ∧ Below B w w' := by
  have hl : l.length = n := by simpa using hown.1
  obtain ⟨g, cap, rfl, h1, h2, h3, h4⟩ := own_form hown h0
  have hc := Try.slices_Compact_int_cells g 0 n cap l w (by omega) (by omega) (by omega)
    (fun j hj => by
      rw [Nat.zero_add, hown.cellAt j (by omega)]; simp [List.getD, show j < l.length from hj])
    (fun j _ => by rw [Nat.zero_add]; exact hown.frozenAt j)
  refine hc.mono ?_
  rintro e w' ⟨rfl, q, rfl⟩
  rw [List.take_of_length_le (show l.length ≤ n by omega)]
  have hle : (Lib.compact l).length ≤ l.length := Lib.compact_length_le l
  refine ⟨_, rfl, ?_, below_setCells (below_drewN (Below.refl _ _) q) h3 _ _⟩
  generalize Lib.compact l = C at hle
  have hlen : ((C ++ List.replicate (n - C.length) 0).map (Value.int .i64)).length = l.length := by
    rw [List.length_map, List.length_append, List.length_replicate]; omega
  obtain ⟨q1, _⟩ := own_setCells_at ((C ++ List.replicate (n - C.length) 0).map (Value.int .i64)) 0 (own_drewN hown q) (by rw [hlen, List.length_map]; omega)
  have q2 := own_cut q1 (show C.length ≤ n by omega)
  have he : ((l.map (Value.int .i64)).take 0 ++ (C ++ List.replicate (n - C.length) 0).map (Value.int .i64) ++ (l.map (Value.int .i64)).drop (0 + ((C ++ List.replicate (n - C.length) 0).map (Value.int .i64)).length)).take (C.length * 1) = C.map (Value.int .i64) := by
    rw [hlen, List.drop_of_length_le (by rw [List.length_map]; omega), List.append_nil, List.take_zero, List.nil_append, List.map_append, Nat.mul_one]
    exact List.take_left' (by rw [List.length_map])
  rw [he] at q2
  exact q2

/-! ### the program's marks -/
def endsL (F : List (List Int)) (o : List Int) : List Int := (o.length : Int) :: F.map fun s => (spanL o s).2
def marksV (F : List (List Int)) (o : List Int) : List Int := sortC (endsL F o)
theorem own_one (w : World) (x : Int) (E : TypeId) : (w.alloc (.cells #[.int .i64 x] E)).ownsRow w.heap.size E 1 (.slice (some ⟨w.heap.size, 0, none⟩) 1 1) 1 [.int .i64 x] :=
  ⟨by simp, .inr ⟨w.heap.size, 1, #[.int .i64 x], rfl, Nat.le_refl _, World.alloc_heap_new w _, Nat.le_refl _, by unfold maxLen; omega, rfl, rfl⟩⟩
set_option maxRecDepth 100000 in
theorem sndMarks_calls (a : Option Addr) (n c : Nat) (F : List (List Int)) (a' : Option Addr) (n' c' : Nat) (o : List Int) (w : World) (h : ListsAt w a n c F) (h' : IntsAt w a' n' c' o) (hn : n ≤ 1000) :
    Calls Try.prog 51 #[.slice a n c, .slice a' n' c'] w fun e w' => ∃ v, e = .returned v ∧ Made 3 w w' v (marksV F o) := by
  obtain ⟨i0, hi0, hz0, hz1, hz2⟩ := info_parts Try.infoInt
  have HL := hid_ (fun W (hW : Below w.heap.size w W) => h.below hW (Nat.le_refl _))
  have HO := hid_ (fun W (hW : Below w.heap.size w W) => h'.below hW (Nat.le_refl _))
  have Hlen := hid_ h.len
  have Hol := hid_ h'.len
  have hown0 := own_one w (n' : Int) 3
  clear h h'
  go_enter Try.func51, Try.ntmps51
  go_wp2
  go_loopw [5, 15] (fun v i wr => ∃ k : Nat, k ≤ n ∧ i = .int .i64 k ∧ wr.ownsRow w.heap.size 3 1 v (k + 1) ((endsL (F.take k) o).map (Value.int .i64)) ∧ Below w.heap.size w wr) (fun _ i _ => n - (intOf i).toNat)
  case atStart => exact ⟨0, Nat.zero_le _, rfl, by rw [List.take_zero, endsL, Hol.out]; exact hown0, (Below.refl _ w).alloc (Nat.le_refl _) _⟩
  case round =>
    obtain ⟨k, hk, rfl, hown, hbel⟩ := hrel
    have hsz := hbel.size
    by_cases hlt : k < n
    · obtain ⟨b, off, a1, n1, c1, rfl, hb, hcell, hrow⟩ := (HL.out wr hbel).cells k hlt
      have Hsn : Hid (endsL (F.take (k + 1)) o = endsL (F.take k) o ++ [(spanL o (F.getD k [])).2]) := hid_ (by
        rw [endsL, endsL, Kv.take_snoc F [] k (by rw [Hlen.out]; exact hlt), List.map_append]; rfl)
      have Hsp := hid_ (span_calls _ _ _ _ _ _ _ _ wr hrow (HO.out wr hbel))
      have hbd := spanL_bd o (F.getD k [])
      have hbd3 := hbd.2.2.1
      clear hrow hbd
      generalize (spanL o (F.getD k [])).1 = f1 at *
      generalize (spanL o (F.getD k [])).2 = f2 at *
      go_wp2_with (first
        | (go_at_call 100; refine Hsp.out.mono ?_; rintro e w' ⟨rfl, rfl⟩)
        | (at_builtin; refine wpList_append_ints _ rfl (.tmp 25) (.tmp 27) _ rfl w.heap.size 3 i0 Try.underlying23 hi0 hz0 hz1 hz2 _ (k + 1) _ rfl (hown.alloc _) _ 1 1 [f2] rfl (IntsAt.one wr f2 3) (by omega) (le_alloc hsz) ?_; intro v' w1 hown1 hg1 hat1))
      go_roundw
      case rel => exact ⟨k + 1, by omega, by go_num, by rw [Hsn.out]; exact hown1, (hbel.alloc hsz _).grown hg1 (le_alloc hsz) fun r e => (hown.lt r e).1⟩
      case measure => simp [intOf]; omega
    · obtain rfl : k = n := by omega
      rw [show F.take k = F from List.take_of_length_le (by rw [Hlen.out]; exact Nat.le_refl _)] at hown
      have Hso := hid_ (sort_calls hown (by omega) (by omega) hsz)
      have Hb := hid_ hbel
      clear hown hbel
      go_wp2_with fail
      refine Hso.out.mono ?_
      rintro e w2 ⟨rfl, hown2, hb2⟩
      have Hco := hid_ (compact_calls hown2 (by omega))
      have Hb2 := hid_ (Hb.out.trans hb2)
      clear hown2 hb2 Hso
      go_wp2_with fail
      refine Hco.out.mono ?_
      rintro e w3 ⟨v3, rfl, hown3, hb3⟩
      have HO3 := hid_ hown3
      have Hb3 := hid_ (Hb2.out.trans hb3)
      clear hown3 hb3
      go_wp2
      go_ret
      exact ⟨v3, rfl, HO3.out, Hb3.out⟩

/-! ### both marks -/
theorem ends_in {m : Int} {F : List (List Int)} {o : List Int} (h : ordErr m F o = 0) : ∀ s ∈ F, 0 ≤ (ends o s).2 ∧ (ends o s).2 < o.length := by
  obtain ⟨he, ho⟩ := ordErr_ok h
  obtain ⟨⟨h1, h6⟩, -, hs⟩ := famErr_ok he
  intro s hs'
  obtain ⟨hne, hb⟩ := hs s hs'
  obtain ⟨x, hx⟩ := List.exists_mem_of_ne_nil s hne
  have hx' := hb x hx
  simp only [IsOrd, Bool.and_eq_true, decide_eq_true_eq, List.all_eq_true, List.mem_range] at ho
  have hox := ho.2 x.toNat (by omega)
  rw [Int.toNat_of_nonneg hx'.1, Has_iff] at hox
  obtain ⟨j, hj, e⟩ := List.mem_iff_getElem.1 hox
  have hH : Has s (o.getD j 0) = true := by rw [List.getD, List.getElem?_eq_getElem hj, Option.getD_some, e]; exact Has_iff.2 hx
  have h0 : 0 ≤ (ends o s).1 := endsTo_first hj hH
  rcases endsTo_bd o s o.length with h | ⟨h, e⟩
  · unfold ends at h0 ⊢; omega
  · omega
theorem marksTo_eq (F : List (List Int)) (o : List Int) (k : Nat) : marksTo F o k = ((List.range k).filter fun i => markAt F o i F.length).length := by
  induction k with
  | zero => rfl
  | succ k ih =>
    rw [marksTo, ih, List.range_succ, List.filter_append, List.length_append]
    congr 1
    cases h : markAt F o k F.length <;> simp [h]
theorem marksV_eq {m : Int} {F : List (List Int)} {o : List Int} (h : ordErr m F o = 0) : marksV F o = ((List.range o.length).filter fun i => markAt F o i F.length).map fun i : Nat => (i : Int) + 1 := by
  have hin := ends_in h
  have hpos : 0 < o.length := by
    obtain ⟨he, ho⟩ := ordErr_ok h
    have := (famErr_ok he).1
    simp only [IsOrd, Bool.and_eq_true, decide_eq_true_eq] at ho
    omega
  obtain ⟨h1, h2⟩ := sortC_asc (endsL F o)
  refine asc_int h1 ?_ fun x => ?_
  · rw [List.pairwise_map]
    refine (List.Pairwise.filter _ List.pairwise_lt_range).imp fun {a b} hab => ?_
    omega
  · rw [show marksV F o = sortC (endsL F o) from rfl, h2 x, endsL, List.mem_cons, List.mem_map, List.mem_map]
    simp only [List.mem_filter, List.mem_range, markAt, List.take_length, Bool.or_eq_true, decide_eq_true_eq, List.any_eq_true, beq_iff_eq]
    constructor
    · rintro (rfl | ⟨s, hs, rfl⟩)
      · exact ⟨o.length - 1, ⟨by omega, .inl (by omega)⟩, by omega⟩
      · obtain ⟨q1, q2⟩ := hin s hs
        refine ⟨(ends o s).2.toNat, ⟨by omega, .inr ⟨s, hs, by omega⟩⟩, ?_⟩
        show (((ends o s).2.toNat : Nat) : Int) + 1 = (ends o s).2 + 1
        omega
    · rintro ⟨i, ⟨hi, (e | ⟨s, hs, e⟩)⟩, rfl⟩
      · exact .inl (by omega)
      · exact .inr ⟨s, hs, by show (ends o s).2 + 1 = _; omega⟩
theorem marksV_len {m : Int} {F : List (List Int)} {o : List Int} (h : ordErr m F o = 0) : (marksV F o).length = marksR F o := by
  rw [marksV_eq h, List.length_map, marksR, marksTo_eq]
theorem marks_pos {m : Int} {F : List (List Int)} {o : List Int} (h : ordErr m F o = 0) : 0 < marksR F o := by
  rw [← marksV_len h]
  refine List.length_pos_of_mem (a := (o.length : Int)) ?_
  rw [show marksV F o = sortC (endsL F o) from rfl, (sortC_asc _).2]
  exact List.mem_cons_self

/-! ### Marks -/
def markErr (m : Int) (F : List (List Int)) (o : List Int) : Int := if ordErr m F o = 0 then (if fitsB F o then 0 else 6) else ordErr m F o
def markRes (m : Int) (F : List (List Int)) (o : List Int) : Int := if markErr m F o = 0 then (marksR F o : Nat) else 0
theorem markErr_ok {m : Int} {F : List (List Int)} {o : List Int} (h : markErr m F o = 0) : ordErr m F o = 0 ∧ fitsB F o = true := by
  unfold markErr at h
  by_cases he : ordErr m F o = 0
  · rw [if_pos he] at h
    cases hf : fitsB F o with
    | true => exact ⟨he, rfl⟩
    | false => rw [hf] at h; simp at h
  · rw [if_neg he] at h; exact absurd h he
set_option maxRecDepth 100000 in
theorem sndMarksX_calls (m : Int) (a : Option Addr) (n c : Nat) (F : List (List Int)) (a' : Option Addr) (n' c' : Nat) (o : List Int) (w : World) (h : ListsAt w a n c F) (h' : IntsAt w a' n' c' o) :
    Calls Try.prog 14 #[.int .i64 m, .slice a n c, .slice a' n' c'] w fun e w' => e = .returned (.tuple #[.int .i64 (markRes m F o), .int .i64 (markErr m F o)]) ∧ Below w.heap.size w w' := by
  have hval := validateOrder_calls m a n c F a' n' c' o w h h'
  have HL := hid_ (fun W (hW : Below w.heap.size w W) => h.below hW (Nat.le_refl _))
  have HO := hid_ (fun W (hW : Below w.heap.size w W) => h'.below hW (Nat.le_refl _))
  by_cases he : ordErr m F o = 0
  · rw [he] at hval
    have Hv := hid_ hval; clear hval
    have hn : n ≤ 6 := by rw [← h.len]; exact (famErr_ok (ordErr_ok he).1).2.1
    have hn' : n' ≤ 6 := by rw [← h'.len]; exact ordErr_len he
    have hfe := fit_eq (ordErr_ok he).1 (ordErr_ok he).2
    cases hf : fitsB F o with
    | true =>
      have He : Hid (markErr m F o = 0) := hid_ (by rw [markErr, if_pos he, hf]; rfl)
      have Hr : Hid (markRes m F o = (marksR F o : Nat)) := hid_ (if_pos He.out)
      have Hml := hid_ (marksV_len he)
      have Hfit := hid_ (fun W hW hW' => sndFits_calls a n c F a' n' c' o W hW hW' (by omega))
      rw [hfe, hf] at Hfit
      have Hfit' := hid_ Hfit.out
      clear he h h' hf hfe Hfit
      rw [He.out, Hr.out]
      go_enter Try.func14, Try.ntmps14
      go_wp2_with fail
      refine Hv.out.mono ?_
      rintro e w1 ⟨rfl, hb1⟩
      go_wp2_with (first
        | (go_at_call 50; refine (Hfit'.out _ (HL.out _ hb1) (HO.out _ hb1)).mono ?_; rintro e w' ⟨rfl, rfl⟩)
        | (go_at_call 51; refine (sndMarks_calls _ _ _ _ _ _ _ _ _ (HL.out _ hb1) (HO.out _ hb1) (by omega)).mono ?_; rintro e w3 ⟨v3, rfl, hm3⟩; have hb3 := below_then hb1 hm3.bel; obtain ⟨a3, c3, rfl, -⟩ := hm3.at_; rw [Hml.out]))
      go_ret2
      exact ⟨rfl, hb3⟩
    | false =>
      have He : Hid (markErr m F o = 6) := hid_ (by rw [markErr, if_pos he, hf]; rfl)
      have Hr : Hid (markRes m F o = 0) := hid_ (if_neg (by rw [He.out]; decide))
      have Hfit := hid_ (fun W hW hW' => sndFits_calls a n c F a' n' c' o W hW hW' (by omega))
      rw [hfe, hf] at Hfit
      have Hfit' := hid_ Hfit.out
      clear he h h' hf hfe Hfit
      rw [He.out, Hr.out]
      go_enter Try.func14, Try.ntmps14
      go_wp2_with fail
      refine Hv.out.mono ?_
      rintro e w1 ⟨rfl, hb1⟩
      go_wp2_with (go_at_call 50; refine (Hfit'.out _ (HL.out _ hb1) (HO.out _ hb1)).mono ?_; rintro e w' ⟨rfl, rfl⟩)
      go_ret2
      exact ⟨rfl, hb1⟩
  · have He : Hid (markErr m F o = ordErr m F o) := hid_ (if_neg he)
    have Hr : Hid (markRes m F o = 0) := hid_ (if_neg (by rw [He.out]; exact he))
    rw [He.out, Hr.out]
    generalize ordErr m F o = er at hval he He
    have hq : (er != 0) = true := by simpa using he
    have Hv := hid_ hval; clear hval he
    go_enter Try.func14, Try.ntmps14
    go_wp2_with fail
    refine Hv.out.mono ?_
    rintro e w2 ⟨rfl, hb2⟩
    go_wp2
    go_ret2
    exact ⟨rfl, hb2⟩
set_option maxRecDepth 100000 in
theorem refMarksX_calls (m : Int) (a : Option Addr) (n c : Nat) (F : List (List Int)) (a' : Option Addr) (n' c' : Nat) (o : List Int) (w : World) (h : ListsAt w a n c F) (h' : IntsAt w a' n' c' o) (hs : n' ≤ 1000000) :
    Calls Try.prog 15 #[.int .i64 m, .slice a n c, .slice a' n' c'] w fun e w' => e = .returned (.tuple #[.int .i64 (markRes m F o), .int .i64 (markErr m F o)]) ∧ ∃ q, w' = w.drewN q := by
  have hval := ordered_calls m a n c F a' n' c' o w h h'
  by_cases he : ordErr m F o = 0
  · rw [he] at hval
    have Hv := hid_ hval; clear hval
    cases hf : fitsB F o with
    | true =>
      have He : Hid (markErr m F o = 0) := hid_ (by rw [markErr, if_pos he, hf]; rfl)
      have Hr : Hid (markRes m F o = (marksR F o : Nat)) := hid_ (if_pos He.out)
      have Hf := hid_ hf
      clear he hf
      rw [He.out, Hr.out]
      go_enter Try.func15, Try.ntmps15
      go_wp2_with fail
      refine Hv.out.mono ?_
      rintro e w1 ⟨rfl, q, rfl⟩
      go_wp2_with (first
        | (go_at_call 53; refine (fits_as (h.drewN q) (h'.drewN q) hs Hf.out).mono ?_; rintro e w' ⟨rfl, rfl⟩)
        | (go_at_call 54; refine (refMarks_calls _ _ _ _ _ _ _ _ _ (h.drewN q) (h'.drewN q) hs).mono ?_; rintro e w' ⟨rfl, rfl⟩))
      go_ret2
      exact ⟨rfl, q, rfl⟩
    | false =>
      have He : Hid (markErr m F o = 6) := hid_ (by rw [markErr, if_pos he, hf]; rfl)
      have Hr : Hid (markRes m F o = 0) := hid_ (if_neg (by rw [He.out]; decide))
      have Hf := hid_ hf
      clear he hf
      rw [He.out, Hr.out]
      go_enter Try.func15, Try.ntmps15
      go_wp2_with fail
      refine Hv.out.mono ?_
      rintro e w1 ⟨rfl, q, rfl⟩
      go_wp2_with (go_at_call 53; refine (fits_as (h.drewN q) (h'.drewN q) hs Hf.out).mono ?_; rintro e w' ⟨rfl, rfl⟩)
      go_ret2
      exact ⟨rfl, q, rfl⟩
  · have He : Hid (markErr m F o = ordErr m F o) := hid_ (if_neg he)
    have Hr : Hid (markRes m F o = 0) := hid_ (if_neg (by rw [He.out]; exact he))
    rw [He.out, Hr.out]
    generalize ordErr m F o = er at hval he He
    have hq : (er != 0) = true := by simpa using he
    have Hv := hid_ hval; clear hval he
    go_enter Try.func15, Try.ntmps15
    go_wp2_with fail
    refine Hv.out.mono ?_
    rintro e w1 ⟨rfl, q, rfl⟩
    go_wp2
    go_ret2
    exact ⟨rfl, q, rfl⟩
end Go.Proofs.Ytoopgmoopmbfnaa
