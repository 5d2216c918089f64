import Derived.Test.YthmnmpglnaegfaaYo
import Derived.Laws.OwnMore
namespace Go.Proofs.Kv
open Go.RowKit
theorem own_form7 {B e size n : Nat} {v : Value} {w : World} {xs : List Value} (h : w.ownsRow B e size v n xs) (h0 : 0 < n) : ∃ g cap, v = .slice (some ⟨g, 0, none⟩) n cap ∧ n ≤ cap ∧ cap ≤ 9223372036854775807 ∧ B ≤ g ∧ g < w.heap.size := by
  rcases h.2 with ⟨rfl, h1⟩ | ⟨g, cap, cur, rfl, hb, hg, hn, hm, hs, ht⟩
  · omega
  · exact ⟨g, cap, rfl, hn, by unfold maxLen at hm; omega, hb, (Array.getElem?_eq_some_iff.1 hg).1⟩
theorem own_cell7 {B E n cap g : Nat} {w : World} {l : List Int} (h : w.ownsRow B E 1 (.slice (some ⟨g, 0, none⟩) n cap) n (l.map (Value.int .i64))) {j : Nat} (hj : j < n) :
    w.cell? ⟨g, j, none⟩ = some (.int .i64 (l.getD j 0)) ∧ w.frozen? ⟨g, j, none⟩ = false := by
  have hl : l.length = n := by have := h.1; simpa using this
  refine ⟨?_, ?_⟩
  · have hc := h.cells (g := g) rfl j (.int .i64 (l.getD j 0)) (by
      rw [List.getElem?_map, List.getElem?_eq_getElem (by omega)]
      simp [List.getD, List.getElem?_eq_getElem (show j < l.length by omega)])
    have : (⟨g, 0, none⟩ : Addr).add j = ⟨g, j, none⟩ := by unfold Addr.add; split <;> simp_all
    rwa [this] at hc
  · rcases h.2 with ⟨h1, _⟩ | ⟨g', cap', cur, h1, _, hg, _⟩
    · simp at h1
    · injection h1 with q1; injection q1 with q1; injection q1 with q1; subst q1
      exact row_free hg j
theorem own_put7 {B E n cap g : Nat} {w : World} {l : List Int} (h : w.ownsRow B E 1 (.slice (some ⟨g, 0, none⟩) n cap) n (l.map (Value.int .i64))) (j : Nat) (y : Int) :
    (w.setCell ⟨g, j, none⟩ (.int .i64 y)).ownsRow B E 1 (.slice (some ⟨g, 0, none⟩) n cap) n ((l.set j y).map (Value.int .i64)) := by
  rw [List.map_set]; exact (h.stored j _).1
end Go.Proofs.Kv
namespace Go.Proofs.Ythmnmpglnaegfaa
open Go.RowKit Go.Proofs.Kv

/-! ### what is known at the nodes -/
def rdT (T : List (List Int)) (p c : Nat) : Int := (T.getD c []).getD p 0
def nodeX (X : Tr) (c : Nat) : Nat := (X.at_.getD c 0).toNat
def stepK (K : List Int) (v : Nat) (r : Int) : Option (List Int) := if K.getD v 0 ≠ -1 ∧ K.getD v 0 ≠ r then none else some (K.set v r)
def foldK (X : Tr) (T : List (List Int)) (p : Nat) : Nat → Option (List Int)
  | 0 => some (List.replicate X.par.length (-1))
  | k + 1 => (foldK X T p k).bind fun K => stepK K (nodeX X k) (rdT T p k)
def atK (X : Tr) (T : List (List Int)) (p : Nat) : Option (List Int) := foldK X T p T.length
theorem foldK_none {X : Tr} {T : List (List Int)} {p k : Nat} (h : foldK X T p k = none) : ∀ j, foldK X T p (k + j) = none
  | 0 => h
  | j + 1 => by rw [← Nat.add_assoc, foldK, foldK_none h j]; rfl
theorem foldK_len {X : Tr} {T : List (List Int)} {p : Nat} : ∀ {k : Nat} {K : List Int}, foldK X T p k = some K → K.length = X.par.length
  | 0, K, h => by injection h with h; rw [← h]; simp
  | k + 1, K, h => by
    rw [foldK] at h
    obtain ⟨K', h1, h2⟩ := Option.bind_eq_some_iff.1 h
    unfold stepK at h2
    split at h2
    · cases h2
    · injection h2 with h2; rw [← h2, List.length_set]; exact foldK_len h1
def atV (o : Option (List Int)) : List Int := o.getD []
set_option maxRecDepth 100000 in
set_option maxHeartbeats 2000000 in
theorem atNodes_calls (a : Option Addr) (n c : Nat) (T : List (List Int)) (v : Value) (X : Tr) (p : Nat) (w : World) (hT : ListsAt w a n c T) (h : TreeAt w v X) (gT : GoodT T) (gX : GoodX X) (hl : X.at_.length = T.length) (hp : p < n0 T) :
    Calls Try.prog 51 #[.slice a n c, v, .int .i64 (p : Int)] w fun e w' => ∃ v', e = .returned (.tuple #[v', .bool (atK X T p).isSome]) ∧ Made 3 w w' v' (atV (atK X T p)) := by
  have HP := hid_ h
  obtain ⟨a1, n1, c1, a2, n2, c2, rfl, h1, h2⟩ := h
  obtain ⟨w1, hw1⟩ : ∃ w1, w.alloc (.cells #[.slice a1 n1 c1, .slice a2 n2 c2] 31) = w1 := ⟨_, rfl⟩
  have cb : Below w.heap.size w w1 := by rw [← hw1]; exact below_alloc _ _
  have q0 : w1.cell? ⟨w.heap.size, 0, none⟩ = some (.slice a1 n1 c1) := by rw [← hw1]; exact cells_alloc _ _ _ 0
  have q1 : w1.cell? ⟨w.heap.size, 1, none⟩ = some (.slice a2 n2 c2) := by rw [← hw1]; exact cells_alloc _ _ _ 1
  have HP1 := hid_ (HP.out.below cb (Nat.le_refl _)); have Hc1 := hid_ cb
  have HT1 := hid_ (hT.below cb (Nat.le_refl _))
  have H2 := hid_ (h2.below cb (Nat.le_refl _))
  have L1 := hid_ h1.len
  have L2 := hid_ h2.len
  have LT := hid_ hT.len
  have Hn21 : Hid (n2 = n) := hid_ (by rw [← L2.out, ← LT.out]; exact hl)
  have g1 := gX.ge; have g16 := gX.le; have ga6 := gX.a6
  rw [L1.out] at g1 g16; rw [L2.out] at ga6
  have HR := hid_ (fun W a c (h : IntsAt W a 1 c [-1]) => repeat_calls a c (-1) n1 g1 g16 W h)
  have HgT := hid_ gT; have HgX := hid_ gX
  have H0 : Hid (foldK X T p 0 = some (List.replicate n1 (-1))) := hid_ (by rw [← L1.out]; rfl)
  have HA : Hid (atK X T p = foldK X T p n2) := hid_ (by rw [atK, LT.out, Hn21.out])
  have HS : Hid (∀ k, foldK X T p (k + 1) = (foldK X T p k).bind fun K => stepK K (nodeX X k) (rdT T p k)) := hid_ (fun k => rfl)
  have HN := hid_ (fun k (hh : foldK X T p k = none) j => foldK_none hh j)
  have HLe := hid_ (fun k K (hh : foldK X T p k = some K) => foldK_len hh)
  rw [L1.out] at HLe
  have hrl := Nat.le_trans h2.le h2.small
  clear h1 h2 cb hT gT gX hl
  generalize atK X T p = o at *
  have q01 := cell_below q0 (below_alloc w1 (.cells #[.int .i64 (-1)] 3))
  go_enter Try.func51, Try.ntmps51
  go_wp2_with (go_at_call 65; (with_reducible refine (HR.out _ _ _ (IntsAt.one _ _ _)).mono ?_); rintro e w2 ⟨v2, rfl, hm⟩; have Hb2 := hid_ ((below_alloc w1 (.cells #[.int .i64 (-1)] 3)).trans (hm.bel.mono (below_alloc _ _).size)); have q02 := cell_below q0 Hb2.out; have q12 := cell_below q1 Hb2.out; have ho := hm.own; rw [List.length_replicate] at ho; obtain ⟨g, cap, rfl, hcap1, hcap2, hg1, hg2⟩ := own_form7 ho (by omega); have Ho := hid_ (own_base ho (below_alloc w1 (.cells #[.int .i64 (-1)] 3)).size); have hgl : w1.heap.size ≤ g := Nat.le_trans (below_alloc w1 (.cells #[.int .i64 (-1)] 3)).size hg1; clear hm ho hg1)
  go_loopw [20] (fun i wr => ∃ (k : Nat) (K : List Int), k ≤ n2 ∧ i = .int .i64 k ∧ foldK X T p k = some K ∧ wr.ownsRow w1.heap.size 3 1 (.slice (some ⟨g, 0, none⟩) n1 cap) n1 (K.map (Value.int .i64)) ∧ Below w1.heap.size w1 wr) (fun i _ => n2 - (intOf i).toNat)
  case atStart => exact ⟨0, _, Nat.zero_le _, rfl, H0.out, Ho.out, Hb2.out⟩
  case round =>
    obtain ⟨k, K, hk, rfl, hf, hown, hb⟩ := hrel
    have Hf := hid_ hf; have Hb := hid_ hb
    by_cases hlt : k < n2
    · have hq1 := cell_below q1 hb
      obtain ⟨b, off, rfl, hb0, hcell⟩ := (H2.out.below hb (Nat.le_refl _)).cells k hlt
      have hkn : k < n := by rw [← Hn21.out]; exact hlt
      obtain ⟨b1, off1, a3, n3, c3, rfl, hb1, hcell1, hrow⟩ := (HT1.out.below hb (Nat.le_refl _)).cells k hkn
      have hkT : k < T.length := by rw [LT.out]; exact hkn
      have hpn : p < n3 := by rw [← hrow.len, HgT.out.len k hkT]; exact hp
      have hr3 := Nat.le_trans hrow.le hrow.small
      obtain ⟨b2, off2, rfl, hb2, hcell2⟩ := hrow.cells p hpn
      have hv := HgX.out.at_ k (by rw [L2.out]; exact hlt)
      have hr := HgT.out.ok k hkT p hp
      have hs := HS.out k
      rw [Hf.out] at hs
      have hs' : foldK X T p (k + 1) = stepK K (X.at_.getD k 0).toNat ((T.getD k []).getD p 0) := hs
      have Hs := hid_ hs'
      rw [L1.out] at hv
      clear hs hs' hrow hf hb
      generalize (T.getD k []).getD p 0 = r at *
      generalize X.at_.getD k 0 = y at *
      obtain ⟨y, rfl⟩ := nat_of hv.1
      rw [Int.toNat_natCast] at Hs
      have hyn : y < n1 := by omega
      obtain ⟨hky, hkf⟩ := own_cell7 hown hyn
      have hky' := World.block_lt_of_cell? _ _ hky
      have hst : stepK K y r = if K.getD y 0 ≠ -1 ∧ K.getD y 0 ≠ r then none else some (K.set y r) := rfl
      have Hown := hid_ hown
      clear hown
      generalize K.getD y 0 = z at *
      by_cases h1 : z = -1
      · have Hz := hid_ (Hs.out.trans (hst.trans (if_neg (by rw [h1]; simp))))
        have hq : (z != -1) = false := by rw [h1]; rfl
        clear h1 hst
        go_wp2
        go_roundw
        case rel => exact ⟨k + 1, _, by omega, by go_num, Hz.out, own_put7 Hown.out y r, Hb.out.setCell (p := ⟨g, y, none⟩) hgl _⟩
        case measure => simp [intOf]; omega
      · have hq : (z != -1) = true := by simpa using h1
        by_cases h2 : z = r
        · have Hz := hid_ (Hs.out.trans (hst.trans (if_neg (fun hh => hh.2 h2))))
          have hq2 : (z != r) = false := by simpa using h2
          clear h1 h2 hst
          go_wp2
          go_roundw
          case rel => exact ⟨k + 1, _, by omega, by go_num, Hz.out, own_put7 Hown.out y r, Hb.out.setCell (p := ⟨g, y, none⟩) hgl _⟩
          case measure => simp [intOf]; omega
        · have Hz := hid_ (Hs.out.trans (hst.trans (if_pos ⟨h1, h2⟩)))
          have hq2 : (z != r) = true := by simpa using h2
          have HE : Hid (o = none) := hid_ (by rw [HA.out, show n2 = k + 1 + (n2 - (k + 1)) by omega]; exact HN.out _ Hz.out _)
          clear h1 h2 hst
          go_wp2
          go_ret2
          exact ⟨_, by rw [HE.out]; rfl, by rw [HE.out]; exact Made.none_ _ (Hc1.out.trans (Hb.out.mono Hc1.out.size))⟩
    · obtain rfl : n2 = k := by omega
      have HE : Hid (o = some K) := hid_ (by rw [HA.out, Hf.out])
      have HKl : Hid (K.length = n1) := hid_ (HLe.out _ _ Hf.out)
      have Hown := hid_ hown
      clear hown hf hb
      go_wp2
      go_ret2
      exact ⟨_, by rw [HE.out]; rfl, by rw [HE.out]; exact ⟨by show World.ownsRow _ _ _ _ _ K.length (K.map _); rw [HKl.out]; exact own_base Hown.out Hc1.out.size, Hc1.out.trans (Hb.out.mono Hc1.out.size)⟩⟩
end Go.Proofs.Ythmnmpglnaegfaa
