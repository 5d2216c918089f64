import Derived.Test.YtoopgmoopmbfnaaSndN
namespace Go.Proofs.Ytoopgmoopmbfnaa
open Go.RowKit Go.Proofs.Kv Go.Proofs.Snd

/-! ### what a valid table gives -/
theorem len_six {l : List Int} (hn : l.Nodup) (hr : ∀ x ∈ l, 0 ≤ x ∧ x ≤ 5) : l.length ≤ 6 := by
  have h1 : (l.mergeSort fun a b => decide (a ≤ b)).length = l.length := by simp
  rw [sort_sounds hn hr] at h1
  rw [← h1]
  exact Nat.le_trans (List.length_filter_le _ _) (by decide)
structure Good (L : List (List Int)) : Prop where
  n1 : 1 ≤ L.length
  n6 : L.length ≤ 6
  ne : ∀ s ∈ L, s ≠ []
  nd : L.flatten.Nodup
  rg : ∀ z ∈ L.flatten, 0 ≤ z ∧ z ≤ 5
  flat : L.flatten.length ≤ 6
  row : ∀ s ∈ L, s.length ≤ 6
theorem good_of {L : List (List Int)} (h : validT L = 0) : Good L := by
  obtain ⟨⟨h1, h6⟩, hok, hnd⟩ := validT_ok h
  have hrg : ∀ z ∈ L.flatten, 0 ≤ z ∧ z ≤ 5 := by
    intro z hz
    obtain ⟨s, hs, hzs⟩ := List.mem_flatten.1 hz
    exact okRow_mem (List.all_eq_true.1 hok s hs) z hzs
  have hfl := len_six hnd hrg
  refine ⟨h1, h6, fun s hs e => ?_, hnd, hrg, hfl, fun s hs => ?_⟩
  · have := List.all_eq_true.1 hok s hs
    rw [e] at this; simp [okRow] at this
  · exact Nat.le_trans (List.sublist_flatten_of_mem hs).length_le hfl

theorem mem_partFor {r s : Int} {j : Nat} {p : Int × Int} : p ∈ partFor r s j ↔ ∃ y : Nat, y < j ∧ 0 ≤ r ∧ r ≤ y ∧ p = (s, (y : Int)) := by
  unfold partFor
  simp only [List.mem_map, List.mem_filter, List.mem_range, Bool.and_eq_true, decide_eq_true_eq]
  constructor
  · rintro ⟨y, ⟨h1, h2, h3⟩, rfl⟩; exact ⟨y, h1, h2, h3, rfl⟩
  · rintro ⟨y, h1, h2, h3, rfl⟩; exact ⟨y, ⟨h1, h2, h3⟩, rfl⟩
theorem mem_rkTo {L : List (List Int)} {m : Nat} {p : Int × Int} : p ∈ rkTo L m ↔ ∃ i, i < m ∧ ∃ s ∈ L.getD i [], ∃ y : Nat, y < L.length ∧ i ≤ y ∧ p = (s, (y : Int)) := by
  unfold rkTo rkRow
  simp only [List.mem_flatMap, List.mem_range, List.take_length, mem_partFor]
  constructor
  · rintro ⟨i, hi, s, hs, y, h1, _, h3, e⟩; exact ⟨i, hi, s, hs, y, h1, by omega, e⟩
  · rintro ⟨i, hi, s, hs, y, h1, h3, e⟩; exact ⟨i, hi, s, hs, y, h1, by omega, by omega, e⟩
theorem mem_take_flatten {L : List (List Int)} {i y : Nat} {s : Int} (hi : i < L.length) (hiy : i ≤ y) (hs : s ∈ L.getD i []) : s ∈ (L.take (y + 1)).flatten := by
  refine List.mem_flatten.2 ⟨L.getD i [], ?_, hs⟩
  rw [List.getD, List.getElem?_eq_getElem hi, Option.getD_some]
  exact List.mem_take_iff_getElem.2 ⟨i, by omega, rfl⟩
/-- all names of a table, in order -/
def namesS (L : List (List Int)) : List (Int × Int) := (rkTo L L.length).mergeSort leP
theorem mem_namesS {L : List (List Int)} {p : Int × Int} : p ∈ namesS L ↔ p ∈ rkTo L L.length := by simp [namesS]
theorem namesS_pos {L : List (List Int)} (h : Good L) : 0 < (rkTo L L.length).length := by
  have hm : L.getD 0 [] ∈ L := by
    rw [List.getD, List.getElem?_eq_getElem (by have := h.n1; omega), Option.getD_some]; exact List.getElem_mem _
  obtain ⟨s, hs⟩ := List.exists_mem_of_ne_nil _ (h.ne _ hm)
  have : (s, ((0 : Nat) : Int)) ∈ rkTo L L.length := mem_rkTo.2 ⟨0, by have := h.n1; omega, s, hs, 0, by have := h.n1; omega, Nat.le_refl _, rfl⟩
  exact List.length_pos_of_mem this
theorem names_len {L : List (List Int)} (h : Good L) : (rkTo L L.length).length ≤ 3600 := by
  have h1 := rkTo_le (fun s hs => Nat.le_trans (h.row s hs) (by omega)) L.length (L := L)
  have h2 : L.length * (100 * L.length) ≤ 6 * (100 * 6) := Nat.mul_le_mul h.n6 (Nat.mul_le_mul_left _ h.n6)
  omega
theorem names_at {L : List (List Int)} {k : Nat} (hk : k < (rkTo L L.length).length) :
    ∃ (x : Int) (y : Nat), (namesS L).getD k (0, 0) = (x, (y : Int)) ∧ y < L.length ∧ x ∈ (L.take (y + 1)).flatten := by
  have hl : (namesS L).length = (rkTo L L.length).length := by simp [namesS]
  have hk' : k < (namesS L).length := by omega
  have hm : (namesS L).getD k (0, 0) ∈ namesS L := by simp [List.getD, List.getElem?_eq_getElem hk']
  obtain ⟨i, hi, s, hs, y, hy, hiy, e⟩ := mem_rkTo.1 (mem_namesS.1 hm)
  exact ⟨s, y, e, hy, mem_take_flatten hi hiy hs⟩

/-! ### classes -/
def classesS (L : List (List Int)) : List (List Int) := ((namesS L).map fun p => standL L p.1 p.2).mergeSort leL
set_option maxRecDepth 100000 in
set_option maxHeartbeats 1000000 in
theorem classes_calls (a : Option Addr) (n c : Nat) (L : List (List Int)) (w : World) (h : ListsAt w a n c L) (hg : Good L) :
    Calls Try.prog 62 #[.slice a n c] w fun e w' => ∃ v, e = .returned v ∧ MadeL 23 w w' v (classesS L) := by
  obtain ⟨i0, hi0, hz0, hz1, hz2⟩ := info_parts Try.infoInts
  have hlen : L.length = n := h.len
  have Hnm := hid_ (sndNames_calls a n c L w h (by have := hg.n6; omega) (fun s hs => Nat.le_trans (hg.row s hs) (by omega)) (namesS_pos hg))
  have HS : Hid (classesS L = ((namesS L).map fun p => standL L p.1 p.2).mergeSort leL) := hid_ rfl
  have Hat : Hid (∀ k, k < (rkTo L L.length).length → ∃ (x : Int) (y : Nat), (namesS L).getD k (0, 0) = (x, (y : Int)) ∧ y < n ∧ x ∈ (L.take (y + 1)).flatten) := hid_ fun k hk => by
    obtain ⟨x, y, h1, h2, h3⟩ := names_at hk
    exact ⟨x, y, h1, by omega, h3⟩
  have hN0 := namesS_pos hg
  have hN1 := names_len hg
  have hNl : (namesS L).length = (rkTo L L.length).length := by simp [namesS]
  go_enter Try.func62, Try.ntmps62
  go_wp2_with fail
  refine Hnm.out.mono ?_
  rintro e w1 ⟨v1, rfl, hm1⟩
  obtain ⟨a1, c1, rfl, hP1⟩ := hm1.at_
  have hlm : ((rkTo L L.length).mergeSort leP).length = (rkTo L L.length).length := by simp
  rw [hlm] at hP1 ⊢
  change PairsAt w1 a1 (rkTo L L.length).length c1 (namesS L) at hP1
  have Hb1 : Hid (Below w.heap.size w w1) := hid_ hm1.bel
  clear hm1 hlm Hnm
  generalize (rkTo L L.length).length = N at hP1 Hat hN0 hN1 hNl
  generalize hNS : namesS L = NS at hP1 Hat hNl HS
  have Hnl := hid_ hNl
  clear hNS hNl
  have hN2 : N ≤ 9223372036854775807 := by omega
  go_wp2
  go_loopw [3, 9] (fun v i wr => ∃ k : Nat, k ≤ N ∧ i = .int .i64 k ∧ OwnL 23 wr w1.heap.size v ((NS.take k).map fun p => standL L p.1 p.2) ∧ Below w1.heap.size w1 wr) (fun _ i _ => N - (intOf i).toNat)
  case atStart => exact ⟨0, by omega, rfl, OwnL.nil _ _ _, Below.refl _ _⟩
  case round =>
    obtain ⟨k, hk, rfl, hown, hbel⟩ := hrel
    have hsz := hbel.size
    by_cases hlt : k < N
    · obtain ⟨b1, off1, rfl, hb1, hc1, hc2⟩ := hP1.cells k hlt
      have hd1 := (hbel.cell (p := ⟨b1, off1 + k * 2, none⟩) hb1).trans hc1
      have hd2 := (hbel.cell (p := ⟨b1, off1 + k * 2 + 1, none⟩) hb1).trans hc2
      obtain ⟨x, y, hxy, hy, hx⟩ := Hat.out k hlt
      rw [hxy] at hd1 hd2
      simp only at hd1 hd2
      have Hsn : Hid ((NS.take (k + 1)).map (fun p => standL L p.1 p.2) = (NS.take k).map (fun p => standL L p.1 p.2) ++ [standL L x y]) := hid_ (by
        rw [Kv.take_snoc NS (0, 0) k (by rw [Hnl.out]; exact hlt), List.map_append, hxy]; rfl)
      have hba : Below w1.heap.size w1 (wr.alloc (.cells #[.int .i64 x, .int .i64 y] 71)) := hbel.alloc hsz _
      have hst := sndStand_calls a n c L x y (wr.alloc (.cells #[.int .i64 x, .int .i64 y] 71)) (h.below (Hb1.out.trans (hba.mono Hb1.out.size)) (Nat.le_refl _)) (by have := hg.flat; omega) hy hx hg.nd hg.rg
      have Hst := hid_ hst; clear hst hx hc1 hc2
      have Hll : Hid (((NS.take k).map fun p => standL L p.1 p.2).length + 1 ≤ 1000000) := hid_ (by
        rw [List.length_map, List.length_take]; omega)
      generalize (NS.take k).map (fun p => standL L p.1 p.2) = cur at hown Hsn Hll
      generalize standL L x y = l at Hst Hsn
      go_wp2_with fail
      refine Hst.out.mono ?_
      rintro e w2 ⟨v2, rfl, hm2⟩
      obtain ⟨a2, c2, hv2, hI2⟩ := hm2.at_
      subst hv2
      have hown2 := (hown.alloc (.cells #[.int .i64 x, .int .i64 y] 71)).below hm2.bel (Nat.le_refl _)
      have Hdis : Hid (∀ b off, 0 < l.length → a2 = some ⟨b, off, none⟩ → u3.ownBlock ≠ some b) := hid_ (by
        intro b off _ ha e
        have h1 := (hown.lt b e).2
        have h2 := (hm2.own.lt b (by rw [ha]; rfl)).1
        simp at h2; omega)
      have hb2 : Below w1.heap.size w1 w2 := hba.trans (hm2.bel.mono hba.size)
      have hsz2 := hb2.size
      clear hm2 hba
      go_wp2_with (at_builtin; refine wpList_push_list _ rfl (.tmp 13) (.tmp 17) _ rfl w1.heap.size 23 i0 Try.underlying22 hi0 hz0 hz1 hz2 u3 cur rfl hown2 a2 l.length c2 l 23 rfl hI2 Hdis.out Hll.out hsz2 ?_; intro v' w3 hown3 hg3 hat3)
      go_roundw
      case rel => exact ⟨k + 1, by omega, by go_num, by rw [Hsn.out]; exact hown3, belowL_app hb2 hsz2 hown2 hg3⟩
      case measure => simp [intOf]; omega
    · obtain rfl : k = N := by omega
      have hfull : NS.take k = NS := List.take_of_length_le (by rw [Hnl.out]; omega)
      rw [hfull] at hown
      have hll : (NS.map fun p => standL L p.1 p.2).length = k := by rw [List.length_map, Hnl.out]
      have Hso := hid_ (sortLists_calls hown (by omega) (by omega) hsz)
      have Hb2 : Hid (Below w.heap.size w wr) := hid_ (below_then Hb1.out hbel)
      clear hown
      go_wp2_with fail
      refine Hso.out.mono ?_
      rintro e w4 ⟨rfl, hown4, hb4⟩
      go_wp2
      go_ret
      exact ⟨_, rfl, by rw [HS.out]; exact hown4.base Hb1.out.size, Hb2.out.trans (hb4.mono Hb1.out.size)⟩

def classesRes (L : List (List Int)) : List (List Int) := if validT L = 0 then classesS L else []
set_option maxRecDepth 100000 in
theorem sndClasses_calls (a : Option Addr) (n c : Nat) (L : List (List Int)) (w : World) (h : ListsAt w a n c L) :
    Calls Try.prog 25 #[.slice a n c] w fun e w' => ∃ v, e = .returned (.tuple #[v, .int .i64 (validT L)]) ∧ MadeL 23 w w' v (classesRes L) := by
  have hval := sndValidate_calls a n c L w h
  by_cases he : validT L = 0
  · have Hf : Hid (classesRes L = classesS L) := hid_ (if_pos he)
    have hg := good_of he
    rw [he] at hval ⊢
    have Hv := hid_ hval; clear hval he
    go_enter Try.func25, Try.ntmps25
    go_wp2_with fail
    refine Hv.out.mono ?_
    rintro e w1 ⟨rfl, hb1⟩
    go_wp2_with (go_at_call 62; refine (classes_calls _ _ _ _ _ (h.below hb1 (Nat.le_refl _)) hg).mono ?_; rintro e w2 ⟨v, rfl, hm⟩)
    go_ret2
    exact ⟨v, rfl, by rw [Hf.out]; exact hm.after hb1⟩
  · have Hf : Hid (classesRes L = []) := hid_ (if_neg he)
    generalize validT L = er at hval he ⊢
    have hq : (er != 0) = true := by simpa using he
    have Hv := hid_ hval; clear hval he
    go_enter Try.func25, Try.ntmps25
    go_wp2_with fail
    refine Hv.out.mono ?_
    rintro e w1 ⟨rfl, hb1⟩
    go_wp2
    go_ret2
    exact ⟨_, rfl, by rw [Hf.out]; exact MadeL.none_ _ hb1⟩
end Go.Proofs.Ytoopgmoopmbfnaa
