import Derived.Test.YthmnmpglnaegfaaYu
namespace Go.Proofs.Kv
open Go.RowKit
theorem own_made7 (w : World) (n : Nat) (E : TypeId) (h : n ≤ 1000) : (w.alloc (.cells (madeCells #[.int .i64 0] n) E)).ownsRow w.heap.size E 1 (.slice (some ⟨w.heap.size, 0, none⟩) n n) n ((List.replicate n (0 : Int)).map (Value.int .i64)) := by
  refine ⟨by simp, .inr ⟨w.heap.size, n, madeCells #[.int .i64 0] n, rfl, Nat.le_refl _, by show (w.heap.push _)[w.heap.size]? = _; simp, Nat.le_refl _, by unfold maxLen; omega, by rw [size_madeCells]; omega, ?_⟩⟩
  rw [List.take_of_length_le (by rw [Array.length_toList, size_madeCells]; omega)]
  apply List.ext_getElem
  · simp [madeCells]
  · intro i h1 h2
    simp [madeCells]
    rw [Nat.mod_one]; rfl
end Go.Proofs.Kv
namespace Go.Proofs.Ythmnmpglnaegfaa
open Go.RowKit Go.Proofs.Kv

/-! ### the readings with the fewest changes -/
def labI (F : Tab) (par : Nat → Nat) (k : Nat) : List Int := (labA F par k).map fun x : Nat => (x : Int)
def partI (F : Tab) (par : Nat → Nat) (n k : Nat) : List Int := labI F par k ++ List.replicate (n - k) 0
def compL (X : Tr) (K : List Int) : List Int := labI (tabK X K X.par.length) (parX X) X.par.length
theorem labI_len (F : Tab) (par : Nat → Nat) (k : Nat) : (labI F par k).length = k := by simp [labI, labA_len]
theorem labI_get (F : Tab) (par : Nat → Nat) {k i : Nat} (h : i < k) : (labI F par k).getD i 0 = (((labA F par k).getD i 0 : Nat) : Int) := by
  have := labA_len F par k
  simp [labI, List.getD, List.getElem?_eq_getElem (show i < (labA F par k).length by omega)]
theorem partI_get (F : Tab) (par : Nat → Nat) {n k i : Nat} (h : i < k) : (partI F par n k).getD i 0 = (((labA F par k).getD i 0 : Nat) : Int) := by
  rw [← labI_get F par h, partI]
  simp [List.getD, List.getElem?_append_left (show i < (labI F par k).length by rw [labI_len]; exact h)]
theorem partI_set (F : Tab) (par : Nat → Nat) {n k : Nat} (h : k < n) {y : Int} (hy : y = (am (F k) (if k = 0 then -1 else (((labA F par k).getD (par k) 0 : Nat) : Int)) : Nat)) : (partI F par n k).set k y = partI F par n (k + 1) := by
  have hl := labI_len F par k
  have e : labI F par (k + 1) = labI F par k ++ [y] := by rw [hy]; simp [labI, labA]
  rw [partI, partI, e, List.set_append_right _ _ (by omega), hl, Nat.sub_self]
  rw [show n - k = (n - (k + 1)) + 1 by omega, List.replicate_succ, List.set_cons_zero, List.append_assoc]; rfl
set_option maxRecDepth 100000 in
set_option maxHeartbeats 4000000 in
theorem complete_calls (v : Value) (X : Tr) (ak : Option Addr) (n ck : Nat) (K : List Int) (w : World) (h : TreeAt w v X) (hK : IntsAt w ak n ck K) (gX : GoodX X) (gK : GoodK K X.par.length) :
    Calls Try.prog 52 #[v, .slice ak n ck] w fun e w' => ∃ v', e = .returned v' ∧ Made 3 w w' v' (compL X K) := by
  have HP := hid_ h
  obtain ⟨a1, n1, c1, a2, n2, c2, rfl, h1, h2⟩ := h
  obtain ⟨w1, hw1⟩ : ∃ w1, w.alloc (.cells #[.slice a1 n1 c1, .slice a2 n2 c2] 31) = w1 := ⟨_, rfl⟩
  have cb : Below w.heap.size w w1 := by rw [← hw1]; exact below_alloc _ _
  have q0 : w1.cell? ⟨w.heap.size, 0, none⟩ = some (.slice a1 n1 c1) := by rw [← hw1]; exact cells_alloc _ _ _ 0
  have q1 : w1.cell? ⟨w.heap.size, 1, none⟩ = some (.slice a2 n2 c2) := by rw [← hw1]; exact cells_alloc _ _ _ 1
  have HP1 := hid_ (HP.out.below cb (Nat.le_refl _)); have Hc1 := hid_ cb
  have H1 := hid_ (h1.below cb (Nat.le_refl _))
  have HK1 := hid_ (hK.below cb (Nat.le_refl _))
  have L1 := hid_ h1.len
  have hnn : n1 = n := by rw [← h1.len, ← hK.len, gK.len]
  subst hnn
  have g1 := gX.ge; have g16 := gX.le
  rw [L1.out] at g1 g16
  have HC := hid_ (countBelow_calls _ X ak n1 ck K w1 HP1.out HK1.out gX gK)
  have HP := hid_ (fun v h0 (hv : v < n1) => parX_lt gX v h0 (by rw [L1.out]; exact hv))
  have HPar := hid_ (fun v h0 (hv : v < n1) => gX.par v h0 (by rw [L1.out]; exact hv))
  have Hpx : Hid (∀ v, parX X v = (X.par.getD v 0).toNat) := hid_ (fun v => rfl)
  have hCL : Hid (compL X K = partI (tabK X K n1) (parX X) n1 n1) := hid_ (by rw [compL, L1.out, partI]; simp)
  have HR : Hid (∀ i, i < n1 → ∀ r, r < 3 → tabK X K n1 i r ≤ 100000) := hid_ (fun i hi r hr => by
    have hp := fun v h0 (hv : v < X.par.length) => parX_lt gX v h0 hv
    rw [tabK, L1.out]
    rw [L1.out] at hp
    rw [proT_last hp hi]
    unfold ovr
    split
    · omega
    · have h1 := proT_le (badK_good gK) hp (t := n1 - 1 - i) (by omega) i (by omega) r
      have h2 := szT_sum (par := parX X) hp (t := n1 - 1 - i) (by omega)
      have h3 := sumN_ge (szT (parX X) n1 (n1 - 1 - i)) (k := n1 - (n1 - 1 - i)) (i := i) (by omega)
      omega)
  have hmk : ∀ W' : World, (Instr.makeSlice 25 (.int .i64 (n1 : Int)) (.int .i64 (n1 : Int))).run Try.prog W' = .ok (.slice (some ⟨W'.heap.size, 0, none⟩) n1 n1) (W'.alloc (.cells (madeCells #[.int .i64 0] n1) 3)) := fun W' => by
    obtain ⟨i0, hi0, hz0, hz1, hz2⟩ := info_parts Try.infoInt
    have := run_make (P := Try.prog) W' 25 3 i0 (.int .i64 0) Try.underlying25 hi0 hz0 .i64 .i64 n1 n1 (by omega) (by omega) (by rw [hz2]; omega) (by omega)
    simpa [hz1, Value.cells] using this
  have HMk := hid_ (fun W => own_made7 W n1 3 (by omega))
  have H0 : Hid (∀ F, partI F (parX X) n1 0 = List.replicate n1 0) := hid_ (fun F => by simp [partI, labI, labA])
  have HSet := hid_ (fun F k (hk : k < n1) y hy => @partI_set F (parX X) n1 k hk y hy)
  have HGet := hid_ (fun F k i (hi : i < k) => @partI_get F (parX X) n1 k i hi)
  have Hlast : Hid (∀ F, (partI F (parX X) n1 n1).length = n1) := hid_ (fun F => by simp [partI, labI_len])
  clear h1 h2 cb hK gX gK
  generalize compL X K = CL at *
  go_enter Try.func52, Try.ntmps52
  go_wp2_with (go_at_call 66; (with_reducible refine HC.out.mono ?_); rintro e w2 ⟨g, rfl, hg, htab, hb2⟩)
  have hgl : g < w2.heap.size := by
    have := (htab 0 (by omega) 0 (by omega)).1
    exact World.block_lt_of_cell? _ _ this
  have Htab := hid_ htab
  have Hb2 := hid_ hb2
  clear htab hb2
  obtain ⟨F, hF⟩ : ∃ F, tabK X K n1 = F := ⟨_, rfl⟩
  rw [hF] at Htab HR hCL
  clear hF
  go_loopw [17] (fun i wr => ∃ k : Nat, k ≤ n1 ∧ i = .int .i64 k ∧ wr.ownsRow w2.heap.size 3 1 (.slice (some ⟨w2.heap.size, 0, none⟩) n1 n1) n1 ((partI F (parX X) n1 k).map (Value.int .i64)) ∧ Below w2.heap.size w2 wr) (fun i _ => n1 - (intOf i).toNat)
  case atStart => exact ⟨0, Nat.zero_le _, rfl, by rw [H0.out]; exact HMk.out w2, below_alloc _ _⟩
  case round =>
    obtain ⟨k, hk, rfl, hown, hb⟩ := hrel
    have Hown := hid_ hown
    have Hb := hid_ hb
    have hbb := Hb2.out.trans (hb.mono Hb2.out.size)
    by_cases hlt : k < n1
    · have htb := Htab.out.below hb hgl
      obtain ⟨hA0, -⟩ := htb k hlt 0 (by omega)
      obtain ⟨hA1, -⟩ := htb k hlt 1 (by omega)
      obtain ⟨hA2, -⟩ := htb k hlt 2 (by omega)
      rw [Nat.add_zero] at hA0
      have HBest := hid_ (fun (r : Int) W => best_calls (F k) r (fun s hs => HR.out k hlt s hs) W)
      by_cases hk0 : k = 0
      · have hq : ¬ (0 < (k : Int)) := by omega
        have Hst := hid_ (HSet.out F k hlt (am (F k) (-1) : Nat) (by rw [if_pos hk0]))
        have HBk := hid_ (HBest.out (-1) wr)
        clear hk0 hown hb hbb htb
        generalize am (F k) (-1) = A at *
        go_wp2_with (go_at_call 67; (with_reducible refine HBk.out.mono ?_); rintro e w5 ⟨rfl, hb5⟩; have hown5 := own_below Hown.out hb5 (Nat.le_refl _); have Hown5 := hid_ hown5; obtain ⟨hc5, hf5⟩ := own_cell7 hown5 hlt; clear hown5)
        go_roundw
        case rel => exact ⟨k + 1, by omega, by go_num, by rw [← Hst.out]; exact own_put7 Hown5.out k A, (Hb.out.trans (hb5.mono Hb.out.size)).setCell (p := ⟨w2.heap.size, k, none⟩) (Nat.le_refl _) _⟩
        case measure => simp [intOf]; omega
      · have hq : 0 < (k : Int) := by omega
        have hqn : 0 < k := by omega
        have hqd : decide (0 < k) = true := decide_eq_true hqn
        have hpl := HP.out k hqn hlt
        have hpr := HPar.out k hqn hlt
        have hpx := Hpx.out k
        have hq1 := cell_below q0 hbb
        obtain ⟨b, off, rfl, hb0, hcell⟩ := (H1.out.below hbb (Nat.le_refl _)).cells k hlt
        have hget := HGet.out F k (parX X k) hpl
        have Hst := hid_ (HSet.out F k hlt (am (F k) (((labA F (parX X) k).getD (parX X k) 0 : Nat) : Int) : Nat) (by rw [if_neg hk0]))
        obtain ⟨hcp, -⟩ := own_cell7 hown (show parX X k < n1 by omega)
        rw [hget] at hcp
        generalize X.par.getD k 0 = y at *
        obtain ⟨y, rfl⟩ := nat_of hpr.1
        rw [Int.toNat_natCast] at hpx
        rw [hpx] at hcp Hst hpl
        clear hk0 hown hb hbb htb hget hpx hpr
        generalize (labA F (parX X) k).getD y 0 = z at *
        have HBk := hid_ (HBest.out (z : Int) wr)
        generalize am (F k) (z : Int) = A at *
        go_wp2_with (go_at_call 67; (with_reducible refine HBk.out.mono ?_); rintro e w5 ⟨rfl, hb5⟩; have hown5 := own_below Hown.out hb5 (Nat.le_refl _); have Hown5 := hid_ hown5; obtain ⟨hc5, hf5⟩ := own_cell7 hown5 hlt; clear hown5)
        go_roundw
        case rel => exact ⟨k + 1, by omega, by go_num, by rw [← Hst.out]; exact own_put7 Hown5.out k A, (Hb.out.trans (hb5.mono Hb.out.size)).setCell (p := ⟨w2.heap.size, k, none⟩) (Nat.le_refl _) _⟩
        case measure => simp [intOf]; omega
    · obtain rfl : k = n1 := by omega
      have hll := Hlast.out F
      rw [← hCL.out] at hll
      clear hown hb
      have Hll := hid_ hll
      clear hll
      go_wp2
      go_ret
      exact ⟨_, rfl, ⟨by rw [Hll.out, hCL.out]; exact own_base Hown.out (Nat.le_trans Hc1.out.size Hb2.out.size), Hc1.out.trans (hbb.mono Hc1.out.size)⟩⟩
end Go.Proofs.Ythmnmpglnaegfaa
