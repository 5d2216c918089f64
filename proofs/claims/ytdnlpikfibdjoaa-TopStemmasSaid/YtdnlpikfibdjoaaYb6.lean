import Derived.Test.YtdnlpikfibdjoaaYb5
import Derived.Test.YtdnlpikfibdjoaaYmh
import Derived.Test.YtdnlpikfibdjoaaYmb
namespace Go.Proofs.Ytdnlpikfibdjoaa
open Go.RowKit Go.Proofs.Kv Go

/-! ### sides of the program -/
def rawK (T : List (List Int)) (k : Nat) : List (List Int) := ((List.range k).filter (splR T)).map (sideR T)
theorem rawK_yes {T : List (List Int)} {k : Nat} (h : splR T k = true) : rawK T (k + 1) = rawK T k ++ [sideR T k] := by unfold rawK; rw [List.range_succ, List.filter_append]; simp [h]
theorem rawK_no {T : List (List Int)} {k : Nat} (h : splR T k = false) : rawK T (k + 1) = rawK T k := by unfold rawK; rw [List.range_succ, List.filter_append]; simp [h]
theorem rawK_len (T : List (List Int)) (k : Nat) : (rawK T k).length ≤ k := by unfold rawK; rw [List.length_map]; have := List.length_filter_le (splR T) (List.range k); simpa using this
def sidesR (T : List (List Int)) : List (List Int) := ddL ((rawK T (n0 T)).mergeSort leS)
theorem leS_trans (a b c : List Int) (h1 : leS a b = true) (h2 : leS b c = true) : leS a c = true := by
  simp only [leS, Bool.not_eq_true'] at h1 h2 ⊢
  exact swoS.ntrans c b a h2 h1
theorem leS_total (a b : List Int) : (leS a b || leS b a) = true := by
  cases h : ltS b a with
  | false => simp [leS, h]
  | true =>
    cases h' : ltS a b with
    | false => simp [leS, h, h']
    | true =>
      have := swoS.trans _ _ _ h h'
      rw [swoS.irrefl] at this; cases this
theorem ltS_of {x y : List Int} (h : leS x y = true) (hne : x ≠ y) : ltS x y = true := by
  simp only [leS, Bool.not_eq_true'] at h
  cases h' : ltS x y with
  | true => rfl
  | false => exact absurd (ltS_anti x y h' h) hne
/-- neighbours that are equal are one: what is left, in a sorted list -/
theorem pk_sorted {L : List (List Int)} (hs : ∀ i, 1 ≤ i → i < L.length → leS (L.getD (i - 1) []) (L.getD i []) = true) : ∀ {m : Nat}, m ≤ L.length →
    ((pkL L m).map fun i => L.getD i []).Pairwise (fun x y => ltS x y = true) ∧ (∀ x ∈ (pkL L m).map (fun i => L.getD i []), m ≠ 0 ∧ (x = L.getD (m - 1) [] ∨ ltS x (L.getD (m - 1) []) = true)) ∧ ∀ i, i < m → L.getD i [] ∈ (pkL L m).map fun i => L.getD i []
  | 0, _ => ⟨by simp [pkL], by simp [pkL], fun i h => absurd h (by omega)⟩
  | m + 1, hm => by
    obtain ⟨h1, h2, h3⟩ := pk_sorted hs (m := m) (by omega)
    by_cases hc : m ≠ 0 ∧ L.getD m [] = L.getD (m - 1) []
    · rw [pkL_same hc.1 hc.2]
      refine ⟨h1, fun x hx => ⟨by omega, ?_⟩, fun i hi => ?_⟩
      · show x = L.getD m [] ∨ ltS x (L.getD m []) = true
        rw [hc.2]; exact (h2 x hx).2
      · by_cases e : i = m
        · rw [e, hc.2]; exact h3 _ (by omega)
        · exact h3 i (by omega)
    · have hp : pkL L (m + 1) = pkL L m ++ [m] := by rw [pkL, if_neg hc]
      have hlt : ∀ x ∈ (pkL L m).map (fun i => L.getD i []), ltS x (L.getD m []) = true := fun x hx => by
        obtain ⟨h0, hx2⟩ := h2 x hx
        have hne : L.getD (m - 1) [] ≠ L.getD m [] := fun e => hc ⟨h0, e.symm⟩
        have hl := ltS_of (hs m (by omega) (by omega)) hne
        rcases hx2 with rfl | hx2
        · exact hl
        · exact swoS.trans _ _ _ hx2 hl
      rw [hp, List.map_append]
      refine ⟨List.pairwise_append.2 ⟨h1, by simp, fun x hx y hy => ?_⟩, fun x hx => ⟨by omega, ?_⟩, fun i hi => ?_⟩
      · simp at hy; subst hy; exact hlt x hx
      · show x = L.getD m [] ∨ ltS x (L.getD m []) = true
        rcases List.mem_append.1 hx with hx | hx
        · exact .inr (hlt x hx)
        · simp at hx; exact .inl hx
      · by_cases e : i = m
        · rw [e]; exact List.mem_append.2 (.inr (by simp))
        · exact List.mem_append.2 (.inl (h3 i (by omega)))
theorem sides_good (T : List (List Int)) : GoodS T (sidesR T) := by
  have hp : ((rawK T (n0 T)).mergeSort leS).Pairwise (fun a b => leS a b = true) := List.pairwise_mergeSort leS_trans leS_total _
  have hmem : ∀ s, s ∈ (rawK T (n0 T)).mergeSort leS ↔ s ∈ rawK T (n0 T) := fun s => (List.mergeSort_perm _ _).mem_iff
  unfold sidesR
  generalize (rawK T (n0 T)).mergeSort leS = L at *
  have hs : ∀ i, 1 ≤ i → i < L.length → leS (L.getD (i - 1) []) (L.getD i []) = true := fun i h1 h2 => by
    have := List.pairwise_iff_getElem.1 hp (i - 1) i (by omega) h2 (by omega)
    simpa [List.getD, List.getElem?_eq_getElem h2, List.getElem?_eq_getElem (show i - 1 < L.length by omega)] using this
  obtain ⟨h1, h2, h3⟩ := pk_sorted hs (m := L.length) (Nat.le_refl _)
  have hmd : ∀ s, s ∈ ddL L ↔ s ∈ L := fun s => by
    constructor
    · intro h
      unfold ddL at h
      obtain ⟨i, hi, rfl⟩ := List.mem_map.1 h
      have hi' := pkL_lt hi
      simp [List.getD, List.getElem?_eq_getElem hi']
    · intro h
      obtain ⟨i, hi, rfl⟩ := List.mem_iff_getElem.1 h
      have := h3 i hi
      have e : L.getD i [] = L[i] := by simp [List.getD, List.getElem?_eq_getElem hi]
      rw [e] at this
      exact this
  refine ⟨fun s => ?_, ?_, fun i j hij hj => ?_⟩
  · rw [hmd, hmem]
    unfold rawK
    rw [List.mem_map]
    constructor
    · rintro ⟨p, hp, rfl⟩
      obtain ⟨hp1, hp2⟩ := List.mem_filter.1 hp
      exact ⟨p, List.mem_range.1 hp1, hp2, rfl⟩
    · rintro ⟨p, hp, hs, rfl⟩
      exact ⟨p, List.mem_filter.2 ⟨List.mem_range.2 hp, hs⟩, rfl⟩
  · show (ddL L).Nodup
    refine List.Pairwise.imp (R := fun x y => ltS x y = true) (fun {a b} h e => ?_) h1
    rw [e, swoS.irrefl] at h; cases h
  · have := List.pairwise_iff_getElem.1 h1 i j (by have : j < (ddL L).length := hj; unfold ddL at this; omega) hj hij
    have e : ∀ k (hk : k < (ddL L).length), (ddL L).getD k [] = (ddL L)[k] := fun k hk => by simp [List.getD, List.getElem?_eq_getElem hk]
    rw [e i (by omega), e j hj]
    have h4 : ltS ((ddL L)[i]'(by omega)) ((ddL L)[j]) = true := this
    unfold ltS at h4
    have h5 := (cmpS_lt _ _).1 (of_decide_eq_true h4)
    omega
theorem OwnRw.toL {E E1 : TypeId} {w : World} {B : Nat} {v : Value} {us : List Value} {L : List (List Int)} (h : OwnRw E E1 w B v us L) : OwnL E w B v L :=
  ⟨us, h.top, fun i hi => by
    obtain ⟨u, e, ho⟩ := h.row i hi
    obtain ⟨a, c, rfl, hI⟩ := IntsAt.own ho
    exact ⟨a, _, c, e, hI, fun b off _ ha => h.diff e b (by rw [ha]; rfl)⟩⟩
set_option maxRecDepth 100000 in
set_option maxHeartbeats 4000000 in
theorem sides_calls (a : Option Addr) (n c : Nat) (T : List (List Int)) (w : World) (h : ListsAt w a n c T) (g : GoodT T) :
    Calls Try.prog 113 #[.slice a n c] w fun e w' => ∃ v, e = .returned v ∧ OwnL 22 w' w.heap.size v (sidesR T) ∧ Below w.heap.size w w' := by
  obtain ⟨i1, hi1, hz0', hz1', hz2'⟩ := info_parts Try.infoInts
  have hn : 0 < n := by have := g.ge; have := h.len; omega
  obtain ⟨b, off, a1, m1, c1, rfl, hb', hcell, hrow⟩ := h.cells 0 hn
  rw [Nat.add_zero] at hcell
  have hm : m1 = n0 T := by rw [← hrow.len]; rfl
  subst hm
  have hw6 := g.w6
  have HS := hid_ (fun W (hW : Below w.heap.size w W) p (hp : p < n0 T) => splits_calls _ n c T p W (h.below hW (Nat.le_refl _)) g hp)
  have HD := hid_ (fun W (hW : Below w.heap.size w W) p (hp : p < n0 T) => side_calls _ n c T p W (h.below hW (Nat.le_refl _)) g hp)
  have Hdef : Hid (sidesR T = ddL ((rawK T (n0 T)).mergeSort leS)) := hid_ rfl
  clear hrow h
  generalize n0 T = m at *
  go_enter Try.func113, Try.ntmps113
  go_wp2
  go_loopw [3, 9] (fun lv pv wr => ∃ (k : Nat) (us : List Value), k ≤ m ∧ pv = .int .i64 (k : Int) ∧ OwnRw 22 3 wr w.heap.size lv us (rawK T k) ∧ Below w.heap.size w wr) (fun _ pv _ => m - (intOf pv).toNat)
  case atStart => exact ⟨0, [], Nat.zero_le _, rfl, OwnRw.nil _ _ (by decide), Below.refl _ _⟩
  case round =>
    obtain ⟨k, us, hk, rfl, hO, hbel⟩ := hrel
    have hsz := hbel.size
    by_cases hlt : k < m
    · have HSk := hid_ (HS.out wr hbel k hlt)
      have HDk := hid_ (fun W (hW : Below wr.heap.size wr W) => HD.out W (hbel.trans (hW.mono hsz)) k hlt)
      have hrl := rawK_len T k
      have HO := hid_ hO
      have Hbel := hid_ hbel
      cases hs : splR T k with
      | true =>
        rw [hs] at HSk
        have HK := hid_ (rawK_yes hs)
        obtain ⟨rl, hrl'⟩ : ∃ rl, (rawK T k).length = rl := ⟨_, rfl⟩
        have Hrl := hid_ hrl'
        rw [hrl'] at hrl
        clear hs hO hbel hrl'
        go_wp2_with (first
          | (go_at_call 95; (with_reducible refine HSk.out.mono ?_); rintro e w2 ⟨rfl, hb2⟩; have HD2 := hid_ (HDk.out w2 hb2); have hsz2 := hb2.size)
          | (go_at_call 96; (with_reducible refine HD2.out.mono ?_); rintro e w3 ⟨v3, rfl, hm3⟩; obtain ⟨g3, c3, e3, -⟩ := hm3.at_; subst e3; have hb3 := hb2.trans (hm3.bel.mono hsz2); have hO3 := (HO.out.below hb3 (Nat.le_refl _)).top; have hsz3 := hb3.size; rw [Hrl.out] at hO3; have Hm3 := hid_ (own_base hm3.own hsz2); have Hb3 := hid_ hb3; clear hm3 hb3)
          | (at_builtin; refine wpList_push_val2 _ rfl (.tmp 15) (.tmp 19) _ rfl w.heap.size 22 i1 Try.underlying43 hi1 hz0' rfl hz1' hz2' (by omega) _ _ _ rfl hO3 (.slice g3 (sideR T k).length c3) rfl 22 rfl (by omega) (by omega) ?_; intro v4 w4 hown4 hg4 hat4))
        have Hb4 : Hid (Below w.heap.size w w4) := hid_ (below_app (Hbel.out.trans (Hb3.out.mono hsz)) (Nat.le_trans hsz hsz3) hO3 hg4)
        have HO4 := hid_ (OwnRw.push (r := sideR T k) hsz HO.out Hb3.out Hm3.out (by rw [Hrl.out]; exact hown4) hg4)
        clear hown4 hg4 hat4 hO3
        go_roundw
        case rel => exact ⟨k + 1, _, by omega, by go_num, by rw [HK.out]; exact HO4.out, Hb4.out⟩
        case measure => (simp [intOf]; try omega)
      | false =>
        rw [hs] at HSk
        have HK := hid_ (rawK_no hs)
        clear hs hO hbel
        go_wp2_with (go_at_call 95; (with_reducible refine HSk.out.mono ?_); rintro e w2 ⟨rfl, hb2⟩; have HO2 := hid_ (HO.out.below hb2 (Nat.le_refl _)); have Hb2 := hid_ (Hbel.out.trans (hb2.mono hsz)); clear hb2)
        go_roundw
        case rel => exact ⟨k + 1, _, by omega, by go_num, by rw [HK.out]; exact HO2.out, Hb2.out⟩
        case measure => (simp [intOf]; try omega)
    · obtain rfl : k = m := by omega
      have hrl := rawK_len T k
      have HL := hid_ (OwnRw.toL hO)
      obtain ⟨av, cv, e, -⟩ := hO.lists
      subst e
      generalize rawK T k = L at *
      have Hbel := hid_ hbel
      by_cases h0 : L.length = 0
      · have hL := List.eq_nil_of_length_eq_zero h0
        subst hL
        have HSn := hid_ (Try.slices_SortFunc_none (α := Nat) av cv (.func (.func 132) #[] #[]) wr)
        have HCn := hid_ (compact_calls (show OwnL 22 wr w.heap.size (.slice av 0 cv) [] from HL.out) (by simp) hsz)
        have he : ([] : List (List Int)).length = 0 := rfl
        clear hO hbel h0 hrl HS HD
        go_wp2_with (first
          | (go_at_call 131; (with_reducible refine HSn.out.mono ?_); rintro e w2 ⟨rfl, rfl⟩)
          | (go_at_call 133; (with_reducible refine HCn.out.mono ?_); rintro e w3 ⟨v3, rfl, hO3, hb3⟩))
        go_ret
        exact ⟨_, rfl, by rw [Hdef.out, List.mergeSort_nil]; exact hO3, Hbel.out.trans hb3⟩
      · have HSn := hid_ (sortSides_calls HL.out (by omega) (by omega) hsz)
        have HCn := hid_ (fun W (hW : OwnL 22 W w.heap.size (.slice av L.length cv) (L.mergeSort leS)) (hz : w.heap.size ≤ W.heap.size) => compact_calls hW (by simp; omega) hz)
        obtain ⟨ln, hln⟩ : ∃ ln, L.length = ln := ⟨_, rfl⟩
        rw [hln] at HSn HCn ⊢
        clear hO hbel h0 hrl HS HD hln
        go_wp2_with (first
          | (go_at_call 131; (with_reducible refine HSn.out.mono ?_); rintro e w2 ⟨rfl, hO2, hb2⟩; have HC2 := hid_ (HCn.out w2 hO2 (Nat.le_trans hsz hb2.size)); clear hO2)
          | (go_at_call 133; (with_reducible refine HC2.out.mono ?_); rintro e w3 ⟨v3, rfl, hO3, hb3⟩))
        go_ret
        exact ⟨_, rfl, by rw [Hdef.out]; exact hO3, Hbel.out.trans (hb2.trans hb3)⟩
end Go.Proofs.Ytdnlpikfibdjoaa
