import Derived.Test.YtdnlpikfibdjoaaYb4
import Derived.Test.YtdnlpikfibdjoaaYW
import Derived.Lib.SliceRun
import Derived.Deep.RegionHeld
namespace Go.Proofs.Ytdnlpikfibdjoaa
open Go.RowKit Go.Proofs.Kv Go

/-! ### slices.CompactFunc of lists -/
/-- the places of the lists that are left when neighbours that are equal are one -/
def pkL (L : List (List Int)) : Nat → List Nat
  | 0 => []
  | m + 1 => if m ≠ 0 ∧ L.getD m [] = L.getD (m - 1) [] then pkL L m else pkL L m ++ [m]
def ddL (L : List (List Int)) : List (List Int) := (pkL L L.length).map fun i => L.getD i []
theorem pkL_len (L : List (List Int)) : ∀ m, (pkL L m).length ≤ m
  | 0 => Nat.le_refl _
  | m + 1 => by
    have := pkL_len L m
    unfold pkL
    split
    · omega
    · rw [List.length_append]; simp; omega
theorem pkL_lt {L : List (List Int)} : ∀ {m i : Nat}, i ∈ pkL L m → i < m
  | 0, _, h => by cases h
  | m + 1, i, h => by
    unfold pkL at h
    split at h
    · have := pkL_lt h; omega
    · rcases List.mem_append.1 h with h | h
      · have := pkL_lt h; omega
      · rw [List.mem_singleton] at h; omega
theorem pkL_all {L : List (List Int)} : ∀ {m : Nat}, (∀ i, 1 ≤ i → i < m → L.getD i [] ≠ L.getD (i - 1) []) → pkL L m = List.range m
  | 0, _ => rfl
  | m + 1, h => by
    unfold pkL
    rw [if_neg (fun e => h m (by omega) (by omega) e.2), pkL_all (fun i h1 h2 => h i h1 (by omega)), List.range_succ]
theorem ddL_all {L : List (List Int)} (h : ∀ i, 1 ≤ i → i < L.length → L.getD i [] ≠ L.getD (i - 1) []) : ddL L = L := by
  unfold ddL
  rw [pkL_all h]
  apply List.ext_getElem (by simp)
  intro i h1 h2
  simp [List.getD, List.getElem?_eq_getElem h2]
theorem pkL_same {L : List (List Int)} {m : Nat} (h0 : m ≠ 0) (h : L.getD m [] = L.getD (m - 1) []) : pkL L (m + 1) = pkL L m := by
  rw [pkL, if_pos ⟨h0, h⟩]
theorem pkL_new {L : List (List Int)} {m : Nat} (h : L.getD m [] ≠ L.getD (m - 1) []) : pkL L (m + 1) = pkL L m ++ [m] := by
  rw [pkL, if_neg (fun e => h e.2)]
/-- what the second loop knows of the row -/
structure RowC (E : TypeId) (w wr : World) (B g n cap : Nat) (vs : List Value) (L : List (List Int)) (t d : Nat) (us : List Value) : Prop where
  own : wr.ownsRow B E 1 (.slice (some ⟨g, 0, none⟩) n cap) n us
  grown : w.grownBy wr (some g)
  len : d = (pkL L t).length
  lt : d < t
  low : ∀ i, i < d → us[i]? = vs[(pkL L t).getD i 0]?
  high : ∀ i, t - 1 ≤ i → us[i]? = vs[i]?
theorem RowC.drewN {E : TypeId} {w wr : World} {B g n cap : Nat} {vs : List Value} {L : List (List Int)} {t d : Nat} {us : List Value} (h : RowC E w wr B g n cap vs L t d us) (q : Nat) : RowC E w (wr.drewN q) B g n cap vs L t d us :=
  ⟨own_drewN h.own q, grown_drewN h.grown q, h.len, h.lt, h.low, h.high⟩
theorem RowC.same {E : TypeId} {w wr : World} {B g n cap : Nat} {vs : List Value} {L : List (List Int)} {t d : Nat} {us : List Value} (h : RowC E w wr B g n cap vs L t d us) (h0 : t ≠ 0) (he : L.getD t [] = L.getD (t - 1) []) : RowC E w wr B g n cap vs L (t + 1) d us :=
  ⟨h.own, h.grown, by rw [pkL_same h0 he]; exact h.len, by have := h.lt; omega, fun i hi => by rw [pkL_same h0 he]; exact h.low i hi, fun i hi => h.high i (by omega)⟩
theorem RowC.new {E : TypeId} {w wr : World} {B g n cap : Nat} {vs : List Value} {L : List (List Int)} {t d : Nat} {us : List Value} (h : RowC E w wr B g n cap vs L t d us) (ht : t < n) (hvl : vs.length = n) (he : L.getD t [] ≠ L.getD (t - 1) []) {u : Value} (hu : vs[t]? = some u) : RowC E w (wr.setCell ⟨g, d, none⟩ u) B g n cap vs L (t + 1) (d + 1) (us.set d u) := by
  have hl := h.lt
  have hul : us.length = n := by have := h.own.1; omega
  obtain ⟨h1, h2⟩ := h.own.stored d u
  refine ⟨h1, h.grown.trans h2, by rw [pkL_new he, List.length_append, ← h.len]; rfl, by omega, fun i hi => ?_, fun i hi => ?_⟩
  · rw [pkL_new he]
    by_cases e : i = d
    · subst e
      rw [List.getElem?_set_self (by omega), List.getD, List.getElem?_append_right (by rw [← h.len]; omega), ← h.len, Nat.sub_self]
      exact hu.symm
    · rw [List.getElem?_set_ne (Ne.symm e), h.low i (by omega), List.getD, List.getD, List.getElem?_append_left (by rw [← h.len]; omega)]
  · rw [List.getElem?_set_ne (by omega)]
    exact h.high i (by omega)
/-- what is left when the rest is cleared and cut away -/
theorem RowC.out {E : TypeId} {w wr : World} {B g n cap : Nat} {vs : List Value} {L : List (List Int)} {d : Nat} {us : List Value} (h : RowC E w wr B g n cap vs L n d us) (hn : L.length = n) (hB : B ≤ w.heap.size) (hBg : B ≤ g)
    (hin : ∀ i, i < n → ∃ a m c, vs[i]? = some (.slice a m c) ∧ IntsAt w a m c (L.getD i []) ∧ ∀ b off, 0 < m → a = some ⟨b, off, none⟩ → (Value.slice (some ⟨g, 0, none⟩) n cap).ownBlock ≠ some b) :
    OwnL E (wr.setCells g d (List.replicate (n - d) (.slice none 0 0))) B (.slice (some ⟨g, 0, none⟩) d cap) (ddL L) ∧ Below B w (wr.setCells g d (List.replicate (n - d) (.slice none 0 0))) := by
  have hl := h.lt
  have hul : us.length = n := by have := h.own.1; omega
  obtain ⟨h1, h2⟩ := own_setCells_at (List.replicate (n - d) (.slice none 0 0)) d h.own (by rw [List.length_replicate]; omega)
  have h3 := own_cut h1 (show d ≤ n by omega)
  have hg := h.grown.trans h2
  have hdl : (ddL L).length = d := by unfold ddL; rw [List.length_map, hn, h.len]
  refine ⟨⟨_, by rw [hdl]; exact h3, fun i hi => ?_⟩, (Below.refl _ _).grown hg hB fun r e => by cases e; exact hBg⟩
  rw [hdl] at hi
  have hp : (pkL L n).getD i 0 ∈ pkL L n := by
    have hi' : i < (pkL L n).length := by rw [← h.len]; exact hi
    simp [List.getD, List.getElem?_eq_getElem hi']
  have hlt := pkL_lt hp
  obtain ⟨a, m, c, e, hr, hd⟩ := hin _ hlt
  refine ⟨a, m, c, ?_, ?_, fun b off hm ha => hd b off hm ha⟩
  · rw [Nat.mul_one, List.getElem?_take_of_lt hi, List.append_assoc, List.getElem?_append_left (by rw [List.length_take]; omega), List.getElem?_take_of_lt hi, h.low i hi]; exact e
  · have : (ddL L).getD i [] = L.getD ((pkL L n).getD i 0) [] := by
      have hi' : i < (pkL L n).length := by rw [← h.len]; exact hi
      unfold ddL
      rw [hn]
      simp [List.getD, List.getElem?_eq_getElem hi']
    rw [this]
    exact ints_grown hg hr fun b off hm ha e => hd b off hm ha (by rw [e]; rfl)
set_option maxRecDepth 100000 in
set_option maxHeartbeats 4000000 in
theorem compact_calls {B : Nat} {v : Value} {L : List (List Int)} {w : World} (hown : OwnL 22 w B v L) (hs : L.length ≤ 1000000) (hB : B ≤ w.heap.size) :
    Calls Try.prog 133 #[v, .func (.func 60) #[] #[]] w fun e w' => ∃ v', e = .returned v' ∧ OwnL 22 w' B v' (ddL L) ∧ Below B w w' := by
  obtain ⟨i0, hi0, hz0, hz1, hz2⟩ := info_parts Try.infoInts
  have HOwn := hid_ hown
  obtain ⟨a0, c0, rfl, hAt⟩ := hown.at_
  obtain ⟨n, hn⟩ : ∃ n, L.length = n := ⟨_, rfl⟩
  rw [hn] at HOwn hAt hs ⊢
  by_cases h2 : n < 2
  · have h2' : (n : Int) < 2 := by omega
    have hd : ddL L = L := ddL_all fun i h1 h3 => absurd h3 (by omega)
    rw [hd]
    clear hown hAt hd hn
    go_enter Try.func133, Try.ntmps133
    go_wp2
    go_ret
    exact ⟨_, rfl, HOwn.out, Below.refl _ _⟩
  · have h2' : ¬ (n : Int) < 2 := by omega
    obtain ⟨vs, hrow, hin⟩ := hown.has
    rw [hn] at hrow
    obtain ⟨g, cap, hv, hnc, hcap, hBg, hgl⟩ := own_form7 hrow (by omega)
    injection hv with hv hv1 hv2
    subst hv hv2
    have Hrow := hid_ hrow
    have Hn := hid_ hn
    have hvl : vs.length = n := by have := hrow.1; omega
    have Hvl := hid_ hvl
    have HIn := hid_ (fun i (hi : i < n) => hin i (by omega))
    have HC := hid_ (fun (q i : Nat) (hi : i < n) => show ∃ a n' c, (w.drewN q).cell? ⟨g, i, none⟩ = some (.slice a n' c) ∧ IntsAt (w.drewN q) a n' c (L.getD i []) from by
      obtain ⟨a, n', c, e, hr, -⟩ := hin i (by omega)
      refine ⟨a, n', c, ?_, hr.drewN q⟩
      show w.cell? _ = _
      rw [hrow.cellAt i (by omega)]; exact e)
    have hone : ∀ (i : Nat) (u : Value), vs[i]? = some u → u.oneCell' = true := fun i u hu => by
      have hi : i < n := by rw [← hvl]; exact (List.getElem?_eq_some_iff.1 hu).1
      obtain ⟨a, n', c, e, -⟩ := hin i (by omega)
      rw [e] at hu; injection hu with hu; rw [← hu]; rfl
    have Hone := hid_ hone
    clear hown hin hrow hn hAt hone hvl
    go_enter Try.func133, Try.ntmps133
    go_wp2
    go_loopw [5] (fun iv wr => ∃ j k q : Nat, k = j + 1 ∧ iv = .int .i64 (k : Int) ∧ k ≤ n ∧ (∀ i, 1 ≤ i → i < k → L.getD i [] ≠ L.getD (i - 1) []) ∧ wr = w.drewN q) (fun iv _ => n - (intOf iv).toNat)
    case atStart => exact ⟨0, 1, 0, rfl, rfl, by omega, fun i h1 h3 => absurd h3 (by omega), rfl⟩
    case round =>
      obtain ⟨j, k, q, hkj, rfl, hk, hall, rfl⟩ := hrel
      have Hkj := hid_ hkj
      have Hall := hid_ hall
      have hwk : IntKind.i64.wrap ((k : Int) - 1) = (j : Int) := by rw [IntWalk.i64_in _ (by omega)]; omega
      have hwk1 : IntKind.i64.wrap ((k : Int) + 1) = ((k + 1 : Nat) : Int) := by rw [IntWalk.i64_in _ (by omega)]; omega
      have hjn : j < n ∨ ¬ k ≤ n := by omega
      clear hkj hall
      by_cases hlt : k < n
      · have hjn : j < n := by have := Hkj.out; omega
        obtain ⟨a1, n1, c1, x1, y1⟩ := HC.out (q + 1) k hlt
        obtain ⟨a2, n2, c2, x2, y2⟩ := HC.out (q + 1) j hjn
        have HE := hid_ (equal7_calls _ _ _ _ _ _ _ _ _ y1 y2)
        have hdr : (w.drewN q).drew = w.drewN (q + 1) := rfl
        clear y1 y2
        have S1 : (w.drewN q).drew.cell? ⟨g, k, none⟩ = some (.slice a1 n1 c1) ∧ (w.drewN q).drew.cell? ⟨g, j, none⟩ = some (.slice a2 n2 c2) := ⟨x1, x2⟩
        by_cases he : L.getD k [] = L.getD j []
        · rw [decide_eq_true he] at HE
          have He := hid_ he
          have hkc : k ≤ c0 := by omega
          have hcne : ¬ c0 = k := by omega
          clear he
          go_wp2
          refine wp_region_held_drew (S := fun W' => W'.cell? ⟨g, k, none⟩ = some (.slice a1 n1 c1) ∧ W'.cell? ⟨g, j, none⟩ = some (.slice a2 n2 c2)) (by kernel_rfl) S1 (fun hHeld => ?_)
          refine wpAnyH_take (i := 0) (oi := ?oi0h1) (v := ?v0h1) ?hi0h1 (by kernel_rfl) ?hf0h1 (by kernel_rfl) ?hQ0h1 ?hy0h1 (by assumption) ?rest0h1
          case hi0h1 => (simp only [List.getElem?_toArray, List.getElem?_cons_zero]; rfl)
          case hf0h1 => kernel_rfl
          case hQ0h1 => exact fun _ _ _ h => h
          case hy0h1 => (refine Or.inl ⟨by rfl, ?_⟩; intro W hSw; (try dsimp only at hSw); go_simp; try with_reducible rfl)
          try simp only [Act.put, List.setIfInBounds_toArray, List.set_cons_zero, List.set_cons_succ]
          refine wpAnyH_take (i := 1) (oi := ?oi1h2) (v := ?v1h2) ?hi1h2 (by kernel_rfl) ?hf1h2 (by kernel_rfl) ?hQ1h2 ?hy1h2 (by assumption) ?rest1h2
          case hi1h2 => (simp only [List.getElem?_toArray, List.getElem?_cons_succ, List.getElem?_cons_zero]; rfl)
          case hf1h2 => kernel_rfl
          case hQ1h2 => exact fun _ _ _ h => h
          case hy1h2 => (refine Or.inl ⟨by rfl, ?_⟩; intro W hSw; (try dsimp only at hSw); go_simp; try with_reducible rfl)
          try simp only [Act.put, List.setIfInBounds_toArray, List.set_cons_zero, List.set_cons_succ]
          refine wpAnyH_take (i := 2) (oi := ?oi2h3) (v := ?v2h3) ?hi2h3 (by kernel_rfl) ?hf2h3 (by kernel_rfl) ?hQ2h3 ?hy2h3 (by assumption) ?rest2h3
          case hi2h3 => (simp only [List.getElem?_toArray, List.getElem?_cons_succ, List.getElem?_cons_zero]; rfl)
          case hf2h3 => kernel_rfl
          case hQ2h3 => exact fun _ _ _ h => h
          case hy2h3 => (refine Or.inl ⟨by rfl, ?_⟩; intro W hSw; (try dsimp only at hSw); go_simp; try with_reducible rfl)
          try simp only [Act.put, List.setIfInBounds_toArray, List.set_cons_zero, List.set_cons_succ]
          refine wpAnyH_take (i := 3) (oi := ?oi3h4) (v := ?v3h4) ?hi3h4 (by kernel_rfl) ?hf3h4 (by kernel_rfl) ?hQ3h4 ?hy3h4 (by assumption) ?rest3h4
          case hi3h4 => (simp only [List.getElem?_toArray, List.getElem?_cons_succ, List.getElem?_cons_zero]; rfl)
          case hf3h4 => kernel_rfl
          case hQ3h4 => exact fun _ _ _ h => h
          case hy3h4 => (refine Or.inl ⟨by rfl, ?_⟩; intro W hSw; (try dsimp only at hSw); go_simp; try with_reducible rfl)
          try simp only [Act.put, List.setIfInBounds_toArray, List.set_cons_zero, List.set_cons_succ]
          refine wpAnyH_take (i := 4) (oi := ?oi4h5) (v := ?v4h5) ?hi4h5 (by kernel_rfl) ?hf4h5 (by kernel_rfl) ?hQ4h5 ?hy4h5 (by assumption) ?rest4h5
          case hi4h5 => (simp only [List.getElem?_toArray, List.getElem?_cons_succ, List.getElem?_cons_zero]; rfl)
          case hf4h5 => kernel_rfl
          case hQ4h5 => exact fun _ _ _ h => h
          case hy4h5 => (refine Or.inl ⟨by rfl, ?_⟩; intro W hSw; (try dsimp only at hSw); obtain ⟨g0, g1⟩ := hSw; go_simp; try with_reducible rfl)
          try simp only [Act.put, List.setIfInBounds_toArray, List.set_cons_zero, List.set_cons_succ]
          refine wpAnyH_take (i := 5) (oi := ?oi5h6) (v := ?v5h6) ?hi5h6 (by kernel_rfl) ?hf5h6 (by kernel_rfl) ?hQ5h6 ?hy5h6 (by assumption) ?rest5h6
          case hi5h6 => (simp only [List.getElem?_toArray, List.getElem?_cons_succ, List.getElem?_cons_zero]; rfl)
          case hf5h6 => kernel_rfl
          case hQ5h6 => exact fun _ _ _ h => h
          case hy5h6 => (refine Or.inl ⟨by rfl, ?_⟩; intro W hSw; (try dsimp only at hSw); go_simp; try with_reducible rfl)
          try simp only [Act.put, List.setIfInBounds_toArray, List.set_cons_zero, List.set_cons_succ]
          refine wpAnyH_take (i := 6) (oi := ?oi6h7) (v := ?v6h7) ?hi6h7 (by kernel_rfl) ?hf6h7 (by kernel_rfl) ?hQ6h7 ?hy6h7 (by assumption) ?rest6h7
          case hi6h7 => (simp only [List.getElem?_toArray, List.getElem?_cons_succ, List.getElem?_cons_zero]; rfl)
          case hf6h7 => kernel_rfl
          case hQ6h7 => exact fun _ _ _ h => h
          case hy6h7 => (refine Or.inl ⟨by rfl, ?_⟩; intro W hSw; (try dsimp only at hSw); go_simp; try with_reducible rfl)
          try simp only [Act.put, List.setIfInBounds_toArray, List.set_cons_zero, List.set_cons_succ]
          refine wpAnyH_take (i := 7) (oi := ?oi7h8) (v := ?v7h8) ?hi7h8 (by kernel_rfl) ?hf7h8 (by kernel_rfl) ?hQ7h8 ?hy7h8 (by assumption) ?rest7h8
          case hi7h8 => (simp only [List.getElem?_toArray, List.getElem?_cons_succ, List.getElem?_cons_zero]; rfl)
          case hf7h8 => kernel_rfl
          case hQ7h8 => exact fun _ _ _ h => h
          case hy7h8 => (refine Or.inl ⟨by rfl, ?_⟩; intro W hSw; (try dsimp only at hSw); go_simp; try with_reducible rfl)
          try simp only [Act.put, List.setIfInBounds_toArray, List.set_cons_zero, List.set_cons_succ]
          refine wpAnyH_take (i := 8) (oi := ?oi8h9) (v := ?v8h9) ?hi8h9 (by kernel_rfl) ?hf8h9 (by kernel_rfl) ?hQ8h9 ?hy8h9 (by assumption) ?rest8h9
          case hi8h9 => (simp only [List.getElem?_toArray, List.getElem?_cons_succ, List.getElem?_cons_zero]; rfl)
          case hf8h9 => kernel_rfl
          case hQ8h9 => exact fun _ _ _ h => h
          case hy8h9 => (refine Or.inl ⟨by rfl, ?_⟩; intro W hSw; (try dsimp only at hSw); go_simp; try with_reducible rfl)
          try simp only [Act.put, List.setIfInBounds_toArray, List.set_cons_zero, List.set_cons_succ]
          refine wpAnyH_take (i := 9) (oi := ?oi9h10) (v := ?v9h10) ?hi9h10 (by kernel_rfl) ?hf9h10 (by kernel_rfl) ?hQ9h10 ?hy9h10 (by assumption) ?rest9h10
          case hi9h10 => (simp only [List.getElem?_toArray, List.getElem?_cons_succ, List.getElem?_cons_zero]; rfl)
          case hf9h10 => kernel_rfl
          case hQ9h10 => exact fun _ _ _ h => h
          case hy9h10 => (refine Or.inl ⟨by rfl, ?_⟩; intro W hSw; (try dsimp only at hSw); obtain ⟨g0, g1⟩ := hSw; go_simp; try with_reducible rfl)
          try simp only [Act.put, List.setIfInBounds_toArray, List.set_cons_zero, List.set_cons_succ]
          refine wpAnyH_ready (rs := [10]) (by kernel_rfl) (by simp) ?_
          refine AllReadyH.cons (o := _) (by (simp only [List.getElem?_toArray, List.getElem?_cons_succ, List.getElem?_cons_zero]; rfl)) (fun K hK => ?_) AllReadyH.nil
          go_simp
          (with_reducible refine HE.out.mono ?_); rintro e w3 ⟨rfl, q3, rfl⟩
          refine hK.out _ _ ?_ (fun hHeld => ?_)
          · exact ⟨x1, x2⟩
          clear hK K
          try simp only [Act.put, List.setIfInBounds_toArray, List.set_cons_zero, List.set_cons_succ]
          refine wpAnyH_done (by kernel_rfl) ?_ _
          clear hHeld
          rw [drewN2]
          clear S1 x1 x2
          have hR0 : RowC 22 w (w.drewN (q + 1 + q3)) B g n c0 vs L (k + 1) k vs := by
            have hkj := Hkj.out
            have e1 : pkL L (k + 1) = List.range k := by
              rw [pkL_same (by omega) (by rw [show k - 1 = j by omega]; exact He.out), pkL_all Hall.out]
            refine ⟨own_drewN Hrow.out _, grown_drewN (World.grownBy.refl w _) _, by rw [e1, List.length_range], by omega, fun i hi => ?_, fun _ _ => rfl⟩
            rw [e1]; simp [List.getD, hi]
          have HR0 := hid_ hR0
          clear hR0
          go_wp2
          go_loopw [5, 7] (fun kv mv wr => ∃ (d m t : Nat) (us : List Value), kv = .int .i64 (d : Int) ∧ mv = .int .i64 (m : Int) ∧ t = k + m ∧ 1 ≤ m ∧ t ≤ n ∧ RowC 22 w wr B g n c0 vs L t d us) (fun _ mv _ => n - k - (intOf mv).toNat)
          case atStart => exact ⟨k, 1, k + 1, vs, rfl, rfl, rfl, Nat.le_refl _, by omega, HR0.out⟩
          case round =>
            obtain ⟨d, m, t, us, rfl, rfl, ht, hm1, htn, hR⟩ := hrel
            have HR := hid_ hR
            have Ht := hid_ ht
            by_cases hmn : m < n - k
            · obtain ⟨m1, hm1'⟩ : ∃ m1, m1 + 1 = m := ⟨m - 1, by omega⟩
              have Hm1 := hid_ hm1'
              have hwm : IntKind.i64.wrap ((m : Int) - 1) = (m1 : Int) := by rw [IntWalk.i64_in _ (by omega)]; omega
              have hwm1 : IntKind.i64.wrap ((m : Int) + 1) = ((m + 1 : Nat) : Int) := by rw [IntWalk.i64_in _ (by omega)]; omega
              have hm1n : m1 < n - k := by omega
              have hdn : d < n := by have := hR.lt; omega
              have hwd : IntKind.i64.wrap ((d : Int) + 1) = ((d + 1 : Nat) : Int) := by rw [IntWalk.i64_in _ (by omega)]; omega
              obtain ⟨a3, n3, c3, e3, r3, f3⟩ := HIn.out (k + m) (by omega)
              obtain ⟨a4, n4, c4, e4, r4, f4⟩ := HIn.out (k + m1) (by omega)
              have x3 : wr.cell? ⟨g, k + m, none⟩ = some (.slice a3 n3 c3) := by rw [hR.own.cellAt _ (by omega), hR.high _ (by omega)]; exact e3
              have x4 : wr.cell? ⟨g, k + m1, none⟩ = some (.slice a4 n4 c4) := by rw [hR.own.cellAt _ (by omega), hR.high _ (by omega)]; exact e4
              have hul : us.length = n := by have := hR.own.1; omega
              have x5 : ∃ u, wr.cell? ⟨g, d, none⟩ = some u := ⟨us[d], by rw [hR.own.cellAt _ (by omega)]; exact List.getElem?_eq_getElem (by omega)⟩
              have x6 : wr.frozen? ⟨g, d, none⟩ = false := hR.own.frozenAt d
              obtain ⟨u5, x5⟩ := x5
              have HE2 := hid_ (equal7_calls _ _ _ _ _ _ _ _ wr.drew ((ints_grown hR.grown r3 (fun b off hm ha e => f3 b off hm ha (by rw [e]; rfl))).drewN 1) ((ints_grown hR.grown r4 (fun b off hm ha e => f4 b off hm ha (by rw [e]; rfl))).drewN 1))
              have S2 : wr.drew.cell? ⟨g, k + m, none⟩ = some (.slice a3 n3 c3) ∧ wr.drew.cell? ⟨g, k + m1, none⟩ = some (.slice a4 n4 c4) := ⟨x3, x4⟩
              have E3 := hid_ e3
              clear hR ht hm1' e3 e4 r3 r4 f3 f4 hul
              by_cases he2 : L.getD (k + m) [] = L.getD (k + m1) []
              · rw [decide_eq_true he2] at HE2
                have He2 := hid_ he2
                clear he2
                go_wp2
                refine wp_region_held_drew (S := fun W' => W'.cell? ⟨g, k + m, none⟩ = some (.slice a3 n3 c3) ∧ W'.cell? ⟨g, k + m1, none⟩ = some (.slice a4 n4 c4)) (by kernel_rfl) S2 (fun hHeld => ?_)
                refine wpAnyH_take (i := 0) (oi := ?oi0h11) (v := ?v0h11) ?hi0h11 (by kernel_rfl) ?hf0h11 (by kernel_rfl) ?hQ0h11 ?hy0h11 (by assumption) ?rest0h11
                case hi0h11 => (simp only [List.getElem?_toArray, List.getElem?_cons_zero]; rfl)
                case hf0h11 => kernel_rfl
                case hQ0h11 => exact fun _ _ _ h => h
                case hy0h11 => (refine Or.inl ⟨by rfl, ?_⟩; intro W hSw; (try dsimp only at hSw); go_simp; try with_reducible rfl)
                try simp only [Act.put, List.setIfInBounds_toArray, List.set_cons_zero, List.set_cons_succ]
                refine wpAnyH_take (i := 1) (oi := ?oi1h12) (v := ?v1h12) ?hi1h12 (by kernel_rfl) ?hf1h12 (by kernel_rfl) ?hQ1h12 ?hy1h12 (by assumption) ?rest1h12
                case hi1h12 => (simp only [List.getElem?_toArray, List.getElem?_cons_succ, List.getElem?_cons_zero]; rfl)
                case hf1h12 => kernel_rfl
                case hQ1h12 => exact fun _ _ _ h => h
                case hy1h12 => (refine Or.inl ⟨by rfl, ?_⟩; intro W hSw; (try dsimp only at hSw); go_simp; try with_reducible rfl)
                try simp only [Act.put, List.setIfInBounds_toArray, List.set_cons_zero, List.set_cons_succ]
                refine wpAnyH_take (i := 2) (oi := ?oi2h13) (v := ?v2h13) ?hi2h13 (by kernel_rfl) ?hf2h13 (by kernel_rfl) ?hQ2h13 ?hy2h13 (by assumption) ?rest2h13
                case hi2h13 => (simp only [List.getElem?_toArray, List.getElem?_cons_succ, List.getElem?_cons_zero]; rfl)
                case hf2h13 => kernel_rfl
                case hQ2h13 => exact fun _ _ _ h => h
                case hy2h13 => (refine Or.inl ⟨by rfl, ?_⟩; intro W hSw; (try dsimp only at hSw); go_simp; try with_reducible rfl)
                try simp only [Act.put, List.setIfInBounds_toArray, List.set_cons_zero, List.set_cons_succ]
                refine wpAnyH_take (i := 3) (oi := ?oi3h14) (v := ?v3h14) ?hi3h14 (by kernel_rfl) ?hf3h14 (by kernel_rfl) ?hQ3h14 ?hy3h14 (by assumption) ?rest3h14
                case hi3h14 => (simp only [List.getElem?_toArray, List.getElem?_cons_succ, List.getElem?_cons_zero]; rfl)
                case hf3h14 => kernel_rfl
                case hQ3h14 => exact fun _ _ _ h => h
                case hy3h14 => (refine Or.inl ⟨by rfl, ?_⟩; intro W hSw; (try dsimp only at hSw); go_simp; try with_reducible rfl)
                try simp only [Act.put, List.setIfInBounds_toArray, List.set_cons_zero, List.set_cons_succ]
                refine wpAnyH_take (i := 4) (oi := ?oi4h15) (v := ?v4h15) ?hi4h15 (by kernel_rfl) ?hf4h15 (by kernel_rfl) ?hQ4h15 ?hy4h15 (by assumption) ?rest4h15
                case hi4h15 => (simp only [List.getElem?_toArray, List.getElem?_cons_succ, List.getElem?_cons_zero]; rfl)
                case hf4h15 => kernel_rfl
                case hQ4h15 => exact fun _ _ _ h => h
                case hy4h15 => (refine Or.inl ⟨by rfl, ?_⟩; intro W hSw; (try dsimp only at hSw); obtain ⟨g0, g1⟩ := hSw; go_simp; try with_reducible rfl)
                try simp only [Act.put, List.setIfInBounds_toArray, List.set_cons_zero, List.set_cons_succ]
                refine wpAnyH_take (i := 5) (oi := ?oi5h16) (v := ?v5h16) ?hi5h16 (by kernel_rfl) ?hf5h16 (by kernel_rfl) ?hQ5h16 ?hy5h16 (by assumption) ?rest5h16
                case hi5h16 => (simp only [List.getElem?_toArray, List.getElem?_cons_succ, List.getElem?_cons_zero]; rfl)
                case hf5h16 => kernel_rfl
                case hQ5h16 => exact fun _ _ _ h => h
                case hy5h16 => (refine Or.inl ⟨by rfl, ?_⟩; intro W hSw; (try dsimp only at hSw); go_simp; try with_reducible rfl)
                try simp only [Act.put, List.setIfInBounds_toArray, List.set_cons_zero, List.set_cons_succ]
                refine wpAnyH_take (i := 6) (oi := ?oi6h17) (v := ?v6h17) ?hi6h17 (by kernel_rfl) ?hf6h17 (by kernel_rfl) ?hQ6h17 ?hy6h17 (by assumption) ?rest6h17
                case hi6h17 => (simp only [List.getElem?_toArray, List.getElem?_cons_succ, List.getElem?_cons_zero]; rfl)
                case hf6h17 => kernel_rfl
                case hQ6h17 => exact fun _ _ _ h => h
                case hy6h17 => (refine Or.inl ⟨by rfl, ?_⟩; intro W hSw; (try dsimp only at hSw); go_simp; try with_reducible rfl)
                try simp only [Act.put, List.setIfInBounds_toArray, List.set_cons_zero, List.set_cons_succ]
                refine wpAnyH_take (i := 7) (oi := ?oi7h18) (v := ?v7h18) ?hi7h18 (by kernel_rfl) ?hf7h18 (by kernel_rfl) ?hQ7h18 ?hy7h18 (by assumption) ?rest7h18
                case hi7h18 => (simp only [List.getElem?_toArray, List.getElem?_cons_succ, List.getElem?_cons_zero]; rfl)
                case hf7h18 => kernel_rfl
                case hQ7h18 => exact fun _ _ _ h => h
                case hy7h18 => (refine Or.inl ⟨by rfl, ?_⟩; intro W hSw; (try dsimp only at hSw); go_simp; try with_reducible rfl)
                try simp only [Act.put, List.setIfInBounds_toArray, List.set_cons_zero, List.set_cons_succ]
                refine wpAnyH_take (i := 8) (oi := ?oi8h19) (v := ?v8h19) ?hi8h19 (by kernel_rfl) ?hf8h19 (by kernel_rfl) ?hQ8h19 ?hy8h19 (by assumption) ?rest8h19
                case hi8h19 => (simp only [List.getElem?_toArray, List.getElem?_cons_succ, List.getElem?_cons_zero]; rfl)
                case hf8h19 => kernel_rfl
                case hQ8h19 => exact fun _ _ _ h => h
                case hy8h19 => (refine Or.inl ⟨by rfl, ?_⟩; intro W hSw; (try dsimp only at hSw); go_simp; try with_reducible rfl)
                try simp only [Act.put, List.setIfInBounds_toArray, List.set_cons_zero, List.set_cons_succ]
                refine wpAnyH_take (i := 9) (oi := ?oi9h20) (v := ?v9h20) ?hi9h20 (by kernel_rfl) ?hf9h20 (by kernel_rfl) ?hQ9h20 ?hy9h20 (by assumption) ?rest9h20
                case hi9h20 => (simp only [List.getElem?_toArray, List.getElem?_cons_succ, List.getElem?_cons_zero]; rfl)
                case hf9h20 => kernel_rfl
                case hQ9h20 => exact fun _ _ _ h => h
                case hy9h20 => (refine Or.inl ⟨by rfl, ?_⟩; intro W hSw; (try dsimp only at hSw); obtain ⟨g0, g1⟩ := hSw; go_simp; try with_reducible rfl)
                try simp only [Act.put, List.setIfInBounds_toArray, List.set_cons_zero, List.set_cons_succ]
                refine wpAnyH_ready (rs := [10]) (by kernel_rfl) (by simp) ?_
                refine AllReadyH.cons (o := _) (by (simp only [List.getElem?_toArray, List.getElem?_cons_succ, List.getElem?_cons_zero]; rfl)) (fun K hK => ?_) AllReadyH.nil
                go_simp
                (with_reducible refine HE2.out.mono ?_); rintro e w5 ⟨rfl, q5, rfl⟩
                refine hK.out _ _ ?_ (fun hHeld => ?_)
                · exact ⟨x3, x4⟩
                clear hK K
                try simp only [Act.put, List.setIfInBounds_toArray, List.set_cons_zero, List.set_cons_succ]
                refine wpAnyH_take (i := 11) (oi := ?oi11h21) (v := ?v11h21) ?hi11h21 (by kernel_rfl) ?hf11h21 (by kernel_rfl) ?hQ11h21 ?hy11h21 (by assumption) ?rest11h21
                case hi11h21 => (simp only [List.getElem?_toArray, List.getElem?_cons_succ, List.getElem?_cons_zero]; rfl)
                case hf11h21 => kernel_rfl
                case hQ11h21 => exact fun _ _ _ h => h
                case hy11h21 => (refine Or.inl ⟨by rfl, ?_⟩; intro W hSw; (try dsimp only at hSw); go_simp; try with_reducible rfl)
                try simp only [Act.put, List.setIfInBounds_toArray, List.set_cons_zero, List.set_cons_succ]
                refine wpAnyH_done (by kernel_rfl) ?_ _
                clear hHeld
                clear S2
                go_wp2
                go_roundw
                case rel =>
                  have h1 := Ht.out; have h2 := Hm1.out
                  exact ⟨d, m + 1, t + 1, us, rfl, by go_num, by omega, by omega, by omega, (HR.out.drewN (1 + q5)).same (by omega) (by rw [h1, show k + m - 1 = k + m1 by omega]; exact He2.out)⟩
                case measure => (simp [intOf]; try omega)
              · rw [decide_eq_false he2] at HE2
                have He2 := hid_ he2
                clear he2
                go_wp2
                refine wp_region_held_drew (S := fun W' => W'.cell? ⟨g, k + m, none⟩ = some (.slice a3 n3 c3) ∧ W'.cell? ⟨g, k + m1, none⟩ = some (.slice a4 n4 c4)) (by kernel_rfl) S2 (fun hHeld => ?_)
                refine wpAnyH_take (i := 0) (oi := ?oi0h22) (v := ?v0h22) ?hi0h22 (by kernel_rfl) ?hf0h22 (by kernel_rfl) ?hQ0h22 ?hy0h22 (by assumption) ?rest0h22
                case hi0h22 => (simp only [List.getElem?_toArray, List.getElem?_cons_zero]; rfl)
                case hf0h22 => kernel_rfl
                case hQ0h22 => exact fun _ _ _ h => h
                case hy0h22 => (refine Or.inl ⟨by rfl, ?_⟩; intro W hSw; (try dsimp only at hSw); go_simp; try with_reducible rfl)
                try simp only [Act.put, List.setIfInBounds_toArray, List.set_cons_zero, List.set_cons_succ]
                refine wpAnyH_take (i := 1) (oi := ?oi1h23) (v := ?v1h23) ?hi1h23 (by kernel_rfl) ?hf1h23 (by kernel_rfl) ?hQ1h23 ?hy1h23 (by assumption) ?rest1h23
                case hi1h23 => (simp only [List.getElem?_toArray, List.getElem?_cons_succ, List.getElem?_cons_zero]; rfl)
                case hf1h23 => kernel_rfl
                case hQ1h23 => exact fun _ _ _ h => h
                case hy1h23 => (refine Or.inl ⟨by rfl, ?_⟩; intro W hSw; (try dsimp only at hSw); go_simp; try with_reducible rfl)
                try simp only [Act.put, List.setIfInBounds_toArray, List.set_cons_zero, List.set_cons_succ]
                refine wpAnyH_take (i := 2) (oi := ?oi2h24) (v := ?v2h24) ?hi2h24 (by kernel_rfl) ?hf2h24 (by kernel_rfl) ?hQ2h24 ?hy2h24 (by assumption) ?rest2h24
                case hi2h24 => (simp only [List.getElem?_toArray, List.getElem?_cons_succ, List.getElem?_cons_zero]; rfl)
                case hf2h24 => kernel_rfl
                case hQ2h24 => exact fun _ _ _ h => h
                case hy2h24 => (refine Or.inl ⟨by rfl, ?_⟩; intro W hSw; (try dsimp only at hSw); go_simp; try with_reducible rfl)
                try simp only [Act.put, List.setIfInBounds_toArray, List.set_cons_zero, List.set_cons_succ]
                refine wpAnyH_take (i := 3) (oi := ?oi3h25) (v := ?v3h25) ?hi3h25 (by kernel_rfl) ?hf3h25 (by kernel_rfl) ?hQ3h25 ?hy3h25 (by assumption) ?rest3h25
                case hi3h25 => (simp only [List.getElem?_toArray, List.getElem?_cons_succ, List.getElem?_cons_zero]; rfl)
                case hf3h25 => kernel_rfl
                case hQ3h25 => exact fun _ _ _ h => h
                case hy3h25 => (refine Or.inl ⟨by rfl, ?_⟩; intro W hSw; (try dsimp only at hSw); go_simp; try with_reducible rfl)
                try simp only [Act.put, List.setIfInBounds_toArray, List.set_cons_zero, List.set_cons_succ]
                refine wpAnyH_take (i := 4) (oi := ?oi4h26) (v := ?v4h26) ?hi4h26 (by kernel_rfl) ?hf4h26 (by kernel_rfl) ?hQ4h26 ?hy4h26 (by assumption) ?rest4h26
                case hi4h26 => (simp only [List.getElem?_toArray, List.getElem?_cons_succ, List.getElem?_cons_zero]; rfl)
                case hf4h26 => kernel_rfl
                case hQ4h26 => exact fun _ _ _ h => h
                case hy4h26 => (refine Or.inl ⟨by rfl, ?_⟩; intro W hSw; (try dsimp only at hSw); obtain ⟨g0, g1⟩ := hSw; go_simp; try with_reducible rfl)
                try simp only [Act.put, List.setIfInBounds_toArray, List.set_cons_zero, List.set_cons_succ]
                refine wpAnyH_take (i := 5) (oi := ?oi5h27) (v := ?v5h27) ?hi5h27 (by kernel_rfl) ?hf5h27 (by kernel_rfl) ?hQ5h27 ?hy5h27 (by assumption) ?rest5h27
                case hi5h27 => (simp only [List.getElem?_toArray, List.getElem?_cons_succ, List.getElem?_cons_zero]; rfl)
                case hf5h27 => kernel_rfl
                case hQ5h27 => exact fun _ _ _ h => h
                case hy5h27 => (refine Or.inl ⟨by rfl, ?_⟩; intro W hSw; (try dsimp only at hSw); go_simp; try with_reducible rfl)
                try simp only [Act.put, List.setIfInBounds_toArray, List.set_cons_zero, List.set_cons_succ]
                refine wpAnyH_take (i := 6) (oi := ?oi6h28) (v := ?v6h28) ?hi6h28 (by kernel_rfl) ?hf6h28 (by kernel_rfl) ?hQ6h28 ?hy6h28 (by assumption) ?rest6h28
                case hi6h28 => (simp only [List.getElem?_toArray, List.getElem?_cons_succ, List.getElem?_cons_zero]; rfl)
                case hf6h28 => kernel_rfl
                case hQ6h28 => exact fun _ _ _ h => h
                case hy6h28 => (refine Or.inl ⟨by rfl, ?_⟩; intro W hSw; (try dsimp only at hSw); go_simp; try with_reducible rfl)
                try simp only [Act.put, List.setIfInBounds_toArray, List.set_cons_zero, List.set_cons_succ]
                refine wpAnyH_take (i := 7) (oi := ?oi7h29) (v := ?v7h29) ?hi7h29 (by kernel_rfl) ?hf7h29 (by kernel_rfl) ?hQ7h29 ?hy7h29 (by assumption) ?rest7h29
                case hi7h29 => (simp only [List.getElem?_toArray, List.getElem?_cons_succ, List.getElem?_cons_zero]; rfl)
                case hf7h29 => kernel_rfl
                case hQ7h29 => exact fun _ _ _ h => h
                case hy7h29 => (refine Or.inl ⟨by rfl, ?_⟩; intro W hSw; (try dsimp only at hSw); go_simp; try with_reducible rfl)
                try simp only [Act.put, List.setIfInBounds_toArray, List.set_cons_zero, List.set_cons_succ]
                refine wpAnyH_take (i := 8) (oi := ?oi8h30) (v := ?v8h30) ?hi8h30 (by kernel_rfl) ?hf8h30 (by kernel_rfl) ?hQ8h30 ?hy8h30 (by assumption) ?rest8h30
                case hi8h30 => (simp only [List.getElem?_toArray, List.getElem?_cons_succ, List.getElem?_cons_zero]; rfl)
                case hf8h30 => kernel_rfl
                case hQ8h30 => exact fun _ _ _ h => h
                case hy8h30 => (refine Or.inl ⟨by rfl, ?_⟩; intro W hSw; (try dsimp only at hSw); go_simp; try with_reducible rfl)
                try simp only [Act.put, List.setIfInBounds_toArray, List.set_cons_zero, List.set_cons_succ]
                refine wpAnyH_take (i := 9) (oi := ?oi9h31) (v := ?v9h31) ?hi9h31 (by kernel_rfl) ?hf9h31 (by kernel_rfl) ?hQ9h31 ?hy9h31 (by assumption) ?rest9h31
                case hi9h31 => (simp only [List.getElem?_toArray, List.getElem?_cons_succ, List.getElem?_cons_zero]; rfl)
                case hf9h31 => kernel_rfl
                case hQ9h31 => exact fun _ _ _ h => h
                case hy9h31 => (refine Or.inl ⟨by rfl, ?_⟩; intro W hSw; (try dsimp only at hSw); obtain ⟨g0, g1⟩ := hSw; go_simp; try with_reducible rfl)
                try simp only [Act.put, List.setIfInBounds_toArray, List.set_cons_zero, List.set_cons_succ]
                refine wpAnyH_ready (rs := [10]) (by kernel_rfl) (by simp) ?_
                refine AllReadyH.cons (o := _) (by (simp only [List.getElem?_toArray, List.getElem?_cons_succ, List.getElem?_cons_zero]; rfl)) (fun K hK => ?_) AllReadyH.nil
                go_simp
                (with_reducible refine HE2.out.mono ?_); rintro e w5 ⟨rfl, q5, rfl⟩
                refine hK.out _ _ ?_ (fun hHeld => ?_)
                · exact ⟨x3, x4⟩
                clear hK K
                try simp only [Act.put, List.setIfInBounds_toArray, List.set_cons_zero, List.set_cons_succ]
                refine wpAnyH_take (i := 11) (oi := ?oi11h32) (v := ?v11h32) ?hi11h32 (by kernel_rfl) ?hf11h32 (by kernel_rfl) ?hQ11h32 ?hy11h32 (by assumption) ?rest11h32
                case hi11h32 => (simp only [List.getElem?_toArray, List.getElem?_cons_succ, List.getElem?_cons_zero]; rfl)
                case hf11h32 => kernel_rfl
                case hQ11h32 => exact fun _ _ _ h => h
                case hy11h32 => (refine Or.inl ⟨by rfl, ?_⟩; intro W hSw; (try dsimp only at hSw); go_simp; try with_reducible rfl)
                try simp only [Act.put, List.setIfInBounds_toArray, List.set_cons_zero, List.set_cons_succ]
                refine wpAnyH_done (by kernel_rfl) ?_ _
                clear hHeld
                clear S2
                have y3 : (wr.drew.drewN q5).cell? ⟨g, k + m, none⟩ = some (.slice a3 n3 c3) := x3
                have y5 : (wr.drew.drewN q5).cell? ⟨g, d, none⟩ = some u5 := x5
                have y6 : (wr.drew.drewN q5).frozen? ⟨g, d, none⟩ = false := x6
                have HR5 := hid_ ((HR.out.drewN 1).drewN q5)
                have hx : (wr.drewN 1).drewN q5 = wr.drew.drewN q5 := rfl
                rw [hx] at HR5
                clear hx x3 x4 x5 x6
                generalize wr.drew.drewN q5 = V at *
                go_wp2
                go_roundw
                case rel =>
                  have h1 := Ht.out; have h2 := Hm1.out
                  exact ⟨d + 1, m + 1, t + 1, _, by go_num, by go_num, by omega, by omega, by omega, HR5.out.new (by omega) Hvl.out (by rw [h1, show k + m - 1 = k + m1 by omega]; exact He2.out) (by rw [h1]; exact E3.out)⟩
                case measure => (simp [intOf]; try omega)
            · have hnt : t = n := by omega
              subst hnt
              have hdt := hR.lt
              have hdc : d ≤ c0 := by omega
              have hdne : ¬ c0 = d := by omega
              have hdn : d ≤ t := by omega
              have hul : us.length = t := by have := hR.own.1; omega
              have hcl : ∀ ty, (Builtin.clear_ #[43] ty #[.slice (some ⟨g, d, none⟩) (t - d) (c0 - d)]).run Try.prog wr = .ok (.tuple #[]) (wr.setCells g d (List.replicate (t - d) (.slice none 0 0))) :=
                fun ty => Lib.run_clear_slice wr 43 22 ty (.slice none 0 0) Try.underlying43 (zero_run hi0 hz0) rfl rfl g d _ _ (by omega) (fun i hi => by
                  rw [hR.own.cellAt _ (by omega), List.getElem?_eq_getElem (by omega)]; rfl) (fun i hi => hR.own.frozenAt _)
              obtain ⟨f1, f2⟩ := HR.out.out Hn.out hB hBg HIn.out
              have F1 := hid_ f1; have F2 := hid_ f2
              clear hR ht f1 f2 hul
              go_wp2
              go_ret
              exact ⟨_, rfl, F1.out, F2.out⟩
        · rw [decide_eq_false he] at HE
          have He := hid_ he
          clear he
          go_wp2
          refine wp_region_held_drew (S := fun W' => W'.cell? ⟨g, k, none⟩ = some (.slice a1 n1 c1) ∧ W'.cell? ⟨g, j, none⟩ = some (.slice a2 n2 c2)) (by kernel_rfl) S1 (fun hHeld => ?_)
          refine wpAnyH_take (i := 0) (oi := ?oi0h33) (v := ?v0h33) ?hi0h33 (by kernel_rfl) ?hf0h33 (by kernel_rfl) ?hQ0h33 ?hy0h33 (by assumption) ?rest0h33
          case hi0h33 => (simp only [List.getElem?_toArray, List.getElem?_cons_zero]; rfl)
          case hf0h33 => kernel_rfl
          case hQ0h33 => exact fun _ _ _ h => h
          case hy0h33 => (refine Or.inl ⟨by rfl, ?_⟩; intro W hSw; (try dsimp only at hSw); go_simp; try with_reducible rfl)
          try simp only [Act.put, List.setIfInBounds_toArray, List.set_cons_zero, List.set_cons_succ]
          refine wpAnyH_take (i := 1) (oi := ?oi1h34) (v := ?v1h34) ?hi1h34 (by kernel_rfl) ?hf1h34 (by kernel_rfl) ?hQ1h34 ?hy1h34 (by assumption) ?rest1h34
          case hi1h34 => (simp only [List.getElem?_toArray, List.getElem?_cons_succ, List.getElem?_cons_zero]; rfl)
          case hf1h34 => kernel_rfl
          case hQ1h34 => exact fun _ _ _ h => h
          case hy1h34 => (refine Or.inl ⟨by rfl, ?_⟩; intro W hSw; (try dsimp only at hSw); go_simp; try with_reducible rfl)
          try simp only [Act.put, List.setIfInBounds_toArray, List.set_cons_zero, List.set_cons_succ]
          refine wpAnyH_take (i := 2) (oi := ?oi2h35) (v := ?v2h35) ?hi2h35 (by kernel_rfl) ?hf2h35 (by kernel_rfl) ?hQ2h35 ?hy2h35 (by assumption) ?rest2h35
          case hi2h35 => (simp only [List.getElem?_toArray, List.getElem?_cons_succ, List.getElem?_cons_zero]; rfl)
          case hf2h35 => kernel_rfl
          case hQ2h35 => exact fun _ _ _ h => h
          case hy2h35 => (refine Or.inl ⟨by rfl, ?_⟩; intro W hSw; (try dsimp only at hSw); go_simp; try with_reducible rfl)
          try simp only [Act.put, List.setIfInBounds_toArray, List.set_cons_zero, List.set_cons_succ]
          refine wpAnyH_take (i := 3) (oi := ?oi3h36) (v := ?v3h36) ?hi3h36 (by kernel_rfl) ?hf3h36 (by kernel_rfl) ?hQ3h36 ?hy3h36 (by assumption) ?rest3h36
          case hi3h36 => (simp only [List.getElem?_toArray, List.getElem?_cons_succ, List.getElem?_cons_zero]; rfl)
          case hf3h36 => kernel_rfl
          case hQ3h36 => exact fun _ _ _ h => h
          case hy3h36 => (refine Or.inl ⟨by rfl, ?_⟩; intro W hSw; (try dsimp only at hSw); go_simp; try with_reducible rfl)
          try simp only [Act.put, List.setIfInBounds_toArray, List.set_cons_zero, List.set_cons_succ]
          refine wpAnyH_take (i := 4) (oi := ?oi4h37) (v := ?v4h37) ?hi4h37 (by kernel_rfl) ?hf4h37 (by kernel_rfl) ?hQ4h37 ?hy4h37 (by assumption) ?rest4h37
          case hi4h37 => (simp only [List.getElem?_toArray, List.getElem?_cons_succ, List.getElem?_cons_zero]; rfl)
          case hf4h37 => kernel_rfl
          case hQ4h37 => exact fun _ _ _ h => h
          case hy4h37 => (refine Or.inl ⟨by rfl, ?_⟩; intro W hSw; (try dsimp only at hSw); obtain ⟨g0, g1⟩ := hSw; go_simp; try with_reducible rfl)
          try simp only [Act.put, List.setIfInBounds_toArray, List.set_cons_zero, List.set_cons_succ]
          refine wpAnyH_take (i := 5) (oi := ?oi5h38) (v := ?v5h38) ?hi5h38 (by kernel_rfl) ?hf5h38 (by kernel_rfl) ?hQ5h38 ?hy5h38 (by assumption) ?rest5h38
          case hi5h38 => (simp only [List.getElem?_toArray, List.getElem?_cons_succ, List.getElem?_cons_zero]; rfl)
          case hf5h38 => kernel_rfl
          case hQ5h38 => exact fun _ _ _ h => h
          case hy5h38 => (refine Or.inl ⟨by rfl, ?_⟩; intro W hSw; (try dsimp only at hSw); go_simp; try with_reducible rfl)
          try simp only [Act.put, List.setIfInBounds_toArray, List.set_cons_zero, List.set_cons_succ]
          refine wpAnyH_take (i := 6) (oi := ?oi6h39) (v := ?v6h39) ?hi6h39 (by kernel_rfl) ?hf6h39 (by kernel_rfl) ?hQ6h39 ?hy6h39 (by assumption) ?rest6h39
          case hi6h39 => (simp only [List.getElem?_toArray, List.getElem?_cons_succ, List.getElem?_cons_zero]; rfl)
          case hf6h39 => kernel_rfl
          case hQ6h39 => exact fun _ _ _ h => h
          case hy6h39 => (refine Or.inl ⟨by rfl, ?_⟩; intro W hSw; (try dsimp only at hSw); go_simp; try with_reducible rfl)
          try simp only [Act.put, List.setIfInBounds_toArray, List.set_cons_zero, List.set_cons_succ]
          refine wpAnyH_take (i := 7) (oi := ?oi7h40) (v := ?v7h40) ?hi7h40 (by kernel_rfl) ?hf7h40 (by kernel_rfl) ?hQ7h40 ?hy7h40 (by assumption) ?rest7h40
          case hi7h40 => (simp only [List.getElem?_toArray, List.getElem?_cons_succ, List.getElem?_cons_zero]; rfl)
          case hf7h40 => kernel_rfl
          case hQ7h40 => exact fun _ _ _ h => h
          case hy7h40 => (refine Or.inl ⟨by rfl, ?_⟩; intro W hSw; (try dsimp only at hSw); go_simp; try with_reducible rfl)
          try simp only [Act.put, List.setIfInBounds_toArray, List.set_cons_zero, List.set_cons_succ]
          refine wpAnyH_take (i := 8) (oi := ?oi8h41) (v := ?v8h41) ?hi8h41 (by kernel_rfl) ?hf8h41 (by kernel_rfl) ?hQ8h41 ?hy8h41 (by assumption) ?rest8h41
          case hi8h41 => (simp only [List.getElem?_toArray, List.getElem?_cons_succ, List.getElem?_cons_zero]; rfl)
          case hf8h41 => kernel_rfl
          case hQ8h41 => exact fun _ _ _ h => h
          case hy8h41 => (refine Or.inl ⟨by rfl, ?_⟩; intro W hSw; (try dsimp only at hSw); go_simp; try with_reducible rfl)
          try simp only [Act.put, List.setIfInBounds_toArray, List.set_cons_zero, List.set_cons_succ]
          refine wpAnyH_take (i := 9) (oi := ?oi9h42) (v := ?v9h42) ?hi9h42 (by kernel_rfl) ?hf9h42 (by kernel_rfl) ?hQ9h42 ?hy9h42 (by assumption) ?rest9h42
          case hi9h42 => (simp only [List.getElem?_toArray, List.getElem?_cons_succ, List.getElem?_cons_zero]; rfl)
          case hf9h42 => kernel_rfl
          case hQ9h42 => exact fun _ _ _ h => h
          case hy9h42 => (refine Or.inl ⟨by rfl, ?_⟩; intro W hSw; (try dsimp only at hSw); obtain ⟨g0, g1⟩ := hSw; go_simp; try with_reducible rfl)
          try simp only [Act.put, List.setIfInBounds_toArray, List.set_cons_zero, List.set_cons_succ]
          refine wpAnyH_ready (rs := [10]) (by kernel_rfl) (by simp) ?_
          refine AllReadyH.cons (o := _) (by (simp only [List.getElem?_toArray, List.getElem?_cons_succ, List.getElem?_cons_zero]; rfl)) (fun K hK => ?_) AllReadyH.nil
          go_simp
          (with_reducible refine HE.out.mono ?_); rintro e w3 ⟨rfl, q3, rfl⟩
          refine hK.out _ _ ?_ (fun hHeld => ?_)
          · exact ⟨x1, x2⟩
          clear hK K
          try simp only [Act.put, List.setIfInBounds_toArray, List.set_cons_zero, List.set_cons_succ]
          refine wpAnyH_done (by kernel_rfl) ?_ _
          clear hHeld
          rw [drewN2]
          clear S1 x1 x2
          go_wp2
          go_roundw
          case rel => exact ⟨k, k + 1, q + 1 + q3, rfl, by go_num, by omega, fun i h1 h3 => by
            by_cases e : i = k
            · have := Hkj.out
              rw [e, show k - 1 = j by omega]; exact He.out
            · exact Hall.out i h1 (by omega), rfl⟩
          case measure => (simp [intOf]; try omega)
      · have hkn : k = n := by omega
        have hd : ddL L = L := ddL_all fun i h1 h3 => Hall.out i h1 (by have := Hn.out; omega)
        have Hd := hid_ hd
        subst hkn
        clear hd
        go_wp2
        go_ret
        exact ⟨_, rfl, by rw [Hd.out]; exact HOwn.out.drewN q, below_drewN (Below.refl _ _) _⟩
end Go.Proofs.Ytdnlpikfibdjoaa
