import Derived.Test.YtdnlpikfibdjoaaYC
import Derived.Test.YtdnlpikfibdjoaaY9
namespace Go.Proofs.Ytdnlpikfibdjoaa
open Go.RowKit Go.Proofs.Kv

/-! ### Total, of the program and of the document -/
def allN (o : Nat → Bool) (n : Nat) : Bool := (List.range n).all o
def okTot (T : List (List Int)) (X : Tr) : Bool := decide (errB T X = 0) && allN (fun p => okRead T X (p : Nat)) (n0 T)
def resTot (T : List (List Int)) (X : Tr) : Nat := if okTot T X = true then sumN (fun p => fewR T X (p : Nat)) (n0 T) else 0
theorem allN_no {o : Nat → Bool} {n k : Nat} (hk : k < n) (h : o k = false) : allN o n = false := by
  rw [allN, List.all_eq_false]; exact ⟨k, List.mem_range.2 hk, by rw [h]; decide⟩
theorem allN_yes {o : Nat → Bool} {n : Nat} (h : ∀ j, j < n → o j = true) : allN o n = true := by
  rw [allN, List.all_eq_true]; exact fun x hx => h x (List.mem_range.1 hx)
theorem few_le (T : List (List Int)) (X : Tr) (p : Int) : fewR T X p ≤ 100 := by
  rw [fewR]
  split
  · rename_i ho
    rw [okRead, Bool.and_eq_true, decide_eq_true_eq] at ho
    obtain ⟨-, gX, -⟩ := errA_ok ho.1
    have h1 := chgI_le X (readL T X p) X.par.length
    have h2 := gX.le
    have e : chgI X (readL T X p) X.par.length = chgR X (readL T X p) := rfl
    omega
  · omega
theorem sumN_le100 {f : Nat → Nat} (h : ∀ p, f p ≤ 100) : ∀ k, sumN f k ≤ 100 * k
  | 0 => Nat.le_refl _
  | k + 1 => by have := sumN_le100 h k; have := h k; show sumN f k + f k ≤ _; omega
set_option maxRecDepth 100000 in
set_option maxHeartbeats 4000000 in
theorem stTotal_calls (a : Option Addr) (n c : Nat) (T : List (List Int)) (v : Value) (X : Tr) (w : World) (hT : ListsAt w a n c T) (h : TreeAt w v X) :
    Calls Try.prog 38 #[.slice a n c, v] w fun e w' => e = .returned (.tuple #[.int .i64 (resTot T X : Nat), .bool (okTot T X), .int .i64 (errB T X)]) ∧ Below w.heap.size w w' := by
  have HP := hid_ h
  obtain ⟨a1, n1, c1, a2, n2, c2, rfl, h1, h2⟩ := h
  obtain ⟨w1, hw1⟩ : ∃ w1, w.alloc (.cells #[.slice a1 n1 c1, .slice a2 n2 c2] 46) = w1 := ⟨_, rfl⟩
  have cb : Below w.heap.size w w1 := by rw [← hw1]; exact below_alloc _ _
  have q0 : w1.cell? ⟨w.heap.size, 0, none⟩ = some (.slice a1 n1 c1) := by rw [← hw1]; exact cells_alloc _ _ _ 0
  have q1 : w1.cell? ⟨w.heap.size, 1, none⟩ = some (.slice a2 n2 c2) := by rw [← hw1]; exact cells_alloc _ _ _ 1
  have HP1 := hid_ (HP.out.below cb (Nat.le_refl _)); have Hc1 := hid_ cb
  have HT1 := hid_ (hT.below cb (Nat.le_refl _))
  have HV := hid_ (both_calls a n c T _ X w1 HT1.out HP1.out)
  have HF := hid_ (fun (p : Nat) W (hW : Below w1.heap.size w1 W) => stFewest_calls a n c T _ X p W (HT1.out.below hW (Nat.le_refl _)) (HP1.out.below hW (Nat.le_refl _)))
  have HR : Hid (resTot T X = if okTot T X = true then sumN (fun p => fewR T X (p : Nat)) (n0 T) else 0) := hid_ rfl
  have HO : Hid (okTot T X = (decide (errB T X = 0) && allN (fun p => okRead T X (p : Nat)) (n0 T))) := hid_ rfl
  have Hl := hid_ (fun p : Nat => few_le T X p)
  clear h1 h2 cb
  generalize resTot T X = R at *
  generalize okTot T X = O at *
  by_cases he : errB T X = 0
  · rw [he] at HV HO ⊢
    obtain ⟨gT, -, -⟩ := errB_ok he
    have hn1 := gT.ge
    have hn6 : n0 T ≤ 6 := gT.w6
    have hn : 0 < n := by rw [← hT.len]; omega
    obtain ⟨b, off, a1, m1, c1, rfl, hb', hcell, hrow⟩ := HT1.out.cells 0 hn
    rw [Nat.add_zero] at hcell
    have hm : m1 = n0 T := by rw [← hrow.len]; rfl
    subst hm
    have hO : O = allN (fun p => okRead T X (p : Nat)) (n0 T) := by rw [HO.out, decide_eq_true rfl, Bool.true_and]
    rw [hO] at HR ⊢
    clear hO HO he gT hrow hT
    generalize n0 T = m at *
    generalize hf : (fun p : Nat => fewR T X (p : Nat)) = f at *
    have Hf : Hid (∀ p : Nat, fewR T X (p : Nat) = f p) := hid_ (fun k => by rw [← hf])
    generalize ho : (fun p : Nat => okRead T X (p : Nat)) = o at *
    have Ho : Hid (∀ p : Nat, okRead T X (p : Nat) = o p) := hid_ (fun k => by rw [← ho])
    clear hf ho
    simp only [Hf.out, Ho.out] at HF Hl
    clear Hf Ho
    have Hs := hid_ (sumN_le100 Hl.out)
    have Hn := hid_ (fun k => @allN_no o m k)
    have Hy := hid_ (@allN_yes o m)
    go_enter Try.func38, Try.ntmps38
    go_wp2_with (go_at_call 86; (with_reducible refine HV.out.mono ?_); rintro e w2 ⟨rfl, hb2⟩; have q02 := cell_below q0 hb2; have q12 := cell_below q1 hb2; have q22 := cell_below hcell hb2)
    go_loopw [8, 23] (fun v i wr => ∃ k : Nat, k ≤ m ∧ i = .int .i64 k ∧ v = .int .i64 (sumN f k : Nat) ∧ (∀ j, j < k → o j = true) ∧ Below w1.heap.size w1 wr) (fun _ i _ => m - (intOf i).toNat)
    case atStart => exact ⟨0, Nat.zero_le _, rfl, rfl, fun j hj => absurd hj (by omega), hb2⟩
    case round =>
      obtain ⟨k, hk, rfl, rfl, hall, hbr⟩ := hrel
      have q0r := cell_below q0 hbr
      have q1r := cell_below q1 hbr
      have hs := Hs.out k
      have hall' := hid_ hall
      clear hall
      by_cases hlt : k < m
      · have HFk := hid_ (HF.out k)
        have hlk := Hl.out k
        have Hk : Hid (sumN f (k + 1) = sumN f k + f k) := hid_ rfl
        cases hok : o k with
        | true =>
          rw [hok] at HFk
          have Hok := hid_ hok
          clear hok
          generalize f k = x at *
          generalize sumN f k = z at *
          go_wp2_with (go_at_call 45; (with_reducible refine (HFk.out _ hbr).mono ?_); rintro e w4 ⟨rfl, hc4⟩; have hb4 := hbr.trans (hc4.mono hbr.size))
          go_roundw
          case rel => exact ⟨k + 1, by omega, by go_num, by rw [Hk.out]; go_num, fun j hj => by by_cases e : j = k; subst e; exact Hok.out; exact hall'.out j (by omega), hb4⟩
          case measure => simp [intOf]; omega
        | false =>
          rw [hok] at HFk
          have HO' : Hid (allN o m = false) := hid_ (Hn.out k hlt hok)
          have HR' : Hid (R = 0) := hid_ (HR.out.trans (if_neg (by rw [HO'.out]; decide)))
          clear hok HR
          generalize f k = x at *
          generalize sumN f k = z at *
          go_wp2_with (go_at_call 45; (with_reducible refine (HFk.out _ hbr).mono ?_); rintro e w4 ⟨rfl, hc4⟩; have hb4 := hbr.trans (hc4.mono hbr.size))
          go_ret3
          exact ⟨by rw [HO'.out, HR'.out]; (first | done | rfl), Hc1.out.trans (hb4.mono Hc1.out.size)⟩
      · obtain rfl : k = m := by omega
        have HO' : Hid (allN o k = true) := hid_ (Hy.out hall'.out)
        have HR' : Hid (R = sumN f k) := hid_ (HR.out.trans (if_pos HO'.out))
        clear HR
        generalize sumN f k = z at *
        go_wp2
        go_ret3
        exact ⟨by rw [HO'.out, HR'.out]; (first | done | rfl), Hc1.out.trans (hbr.mono Hc1.out.size)⟩
  · have HO' : Hid (O = false) := hid_ (HO.out.trans (by rw [decide_eq_false he, Bool.false_and]))
    have HR' : Hid (R = 0) := hid_ (HR.out.trans (if_neg (by rw [HO'.out]; decide)))
    have hq : (errB T X != 0) = true := by simpa using he
    rw [HO'.out, HR'.out]
    generalize errB T X = x at *
    clear he HO HR
    go_enter Try.func38, Try.ntmps38
    go_wp2_with (go_at_call 86; (with_reducible refine HV.out.mono ?_); rintro e w2 ⟨rfl, hb2⟩; have q02 := cell_below q0 hb2; have q12 := cell_below q1 hb2)
    go_ret3
    exact ⟨rfl, Hc1.out.trans (hb2.mono Hc1.out.size)⟩
end Go.Proofs.Ytdnlpikfibdjoaa
