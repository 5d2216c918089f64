import Derived.Test.YtdnlpikfibdjoaaYg4
namespace Go.Proofs.Ytdnlpikfibdjoaa
open Go.RowKit Go.Proofs.Kv Go

set_option maxRecDepth 100000 in
theorem containsS_calls (tb pb : Nat) (aT : Option Addr) (n c : Nat) (T : List (List Int)) (p : Nat) (a : Option Addr) (k ca : Nat) (s : List Int) (w : World)
    (qt : w.cell? ⟨tb, 0, none⟩ = some (.slice aT n c)) (qp : w.cell? ⟨pb, 0, none⟩ = some (.int .i64 (p : Int))) (hT : ListsAt w aT n c T) (hs : IntsAt w a k ca s) (g : GoodT T) (hp : p < n0 T) (hr : ∀ j, j < k → 0 ≤ s.getD j 0 ∧ s.getD j 0 < n0 T) :
    Calls Try.prog 121 #[.slice a k ca, .func (.func 124) #[] #[.pointer (some ⟨tb, 0, none⟩), .pointer (some ⟨pb, 0, none⟩)]] w fun e w' => e = .returned (.bool (s.any fun x => cfR T p x.toNat)) ∧ Below w.heap.size w w' := by
  have HI := hid_ (indexS_calls tb pb aT n c T p a k ca s w qt qp hT hs g hp hr)
  clear hT hs hr g
  go_enter Try.func121, Try.ntmps121
  go_wp2_with (go_at_call 135; (with_reducible refine HI.out.mono ?_); rintro e w4 ⟨r, rfl, hr, hb4⟩; have Hr := hid_ hr; clear hr)
  go_ret
  exact ⟨by rw [← Hr.out]; rfl, hb4⟩
theorem stB_no {T : List (List Int)} {s : List Int} {k : Nat} (hk : k < s.length) (h : fitsS T (s.take k) (s.getD k 0).toNat = false) : stB T s = false := by
  unfold stB; rw [List.all_eq_false]; exact ⟨k, List.mem_range.2 hk, by rw [h]; decide⟩
theorem stB_yes {T : List (List Int)} {s : List Int} {n : Nat} (hn : s.length = n) (h : ∀ k, k < n → fitsS T (s.take k) (s.getD k 0).toNat = true) : stB T s = true := by
  unfold stB; rw [List.all_eq_true]; exact fun i hi => h i (by have := List.mem_range.1 hi; omega)
theorem any_not (s : List Int) (f : Int → Bool) : (s.all fun x => !f x) = !(s.any f) := by
  induction s with
  | nil => rfl
  | cons x s ih => simp [ih]
set_option maxRecDepth 100000 in
set_option maxHeartbeats 4000000 in
theorem stand_calls (aT : Option Addr) (n c : Nat) (T : List (List Int)) (a : Option Addr) (k ca : Nat) (s : List Int) (w : World)
    (hT : ListsAt w aT n c T) (hs : IntsAt w a k ca s) (g : GoodT T) (hr : ∀ j, j < k → 0 ≤ s.getD j 0 ∧ s.getD j 0 < n0 T) :
    Calls Try.prog 90 #[.slice aT n c, .slice a k ca] w fun e w' => e = .returned (.bool (stB T s)) ∧ Below w.heap.size w w' := by
  obtain ⟨w1, hw1⟩ : ∃ w1, w.alloc (.cells #[.slice aT n c] 43) = w1 := ⟨_, rfl⟩
  have cb : Below w.heap.size w w1 := by rw [← hw1]; exact below_alloc _ _
  have qt : w1.cell? ⟨w.heap.size, 0, none⟩ = some (.slice aT n c) := by rw [← hw1]; exact cells_alloc _ _ _ 0
  have Hc1 := hid_ cb
  have HT1 := hid_ (hT.below cb (Nat.le_refl _))
  have HS1 := hid_ (hs.below cb (Nat.le_refl _))
  have hn : k ≤ 9223372036854775807 := Nat.le_trans hs.le hs.small
  have Hl := hid_ hs.len
  have HN := hid_ (fun j hj hh => @stB_no T s j hj hh)
  have HY := hid_ (fun hh => @stB_yes T s k hs.len hh)
  have Hg := hid_ g
  have Hr := hid_ hr
  have HF : Hid (∀ j, fitsS T (s.take j) (s.getD j 0).toNat = (splR T (s.getD j 0).toNat && !((s.take j).any fun x => cfR T (s.getD j 0).toNat x.toNat))) := hid_ (fun j => by rw [← any_not]; rfl)
  clear hT hs g hr cb
  generalize stB T s = R at *
  go_enter Try.func90, Try.ntmps90
  go_wp2
  go_loopw [9] (fun i wr => ∃ j : Nat, j ≤ k ∧ i = .int .i64 j ∧ Below w1.heap.size w1 wr ∧ ∀ i, i < j → fitsS T (s.take i) (s.getD i 0).toNat = true) (fun i _ => k - (intOf i).toNat)
  case atStart => exact ⟨0, Nat.zero_le _, rfl, Below.refl _ _, fun _ h => absurd h (by omega)⟩
  case round =>
    obtain ⟨j, hj, rfl, hbr, hall⟩ := hrel
    have hsz := hbr.size
    have Hall := hid_ hall
    clear hall
    by_cases hlt : j < k
    · have hrj := Hr.out j hlt
      have hf := HF.out j
      have hno := HN.out j (by rw [Hl.out]; exact hlt)
      have hyes := fun hx => lt_snoc (p := fun i => fitsS T (s.take i) (s.getD i 0).toNat = true) Hall.out hx
      obtain ⟨b, off, rfl, hb0, hcell⟩ := (HS1.out.below hbr (Nat.le_refl _)).cells j hlt
      obtain ⟨p, hp⟩ := nat_of hrj.1
      rw [hp] at hcell hrj hf hno
      have hyes' : fitsS T (s.take j) (s.getD j 0).toNat = true → ∀ i, i < j + 1 → fitsS T (s.take i) (s.getD i 0).toNat = true := hyes
      rw [hp] at hyes'
      rw [Int.toNat_natCast] at hf hno hyes'
      clear hyes
      obtain ⟨W2, hW2⟩ : ∃ W2, wr.alloc (.cells #[.int .i64 0] 3) = W2 := ⟨_, rfl⟩
      have q2 : W2.cell? ⟨wr.heap.size, 0, none⟩ = some (.int .i64 0) := by rw [← hW2]; exact cells_alloc _ _ _ 0
      have f2 : W2.frozen? ⟨wr.heap.size, 0, none⟩ = false := by rw [← hW2]; exact World.frozen?_alloc_at _ _ _ _ (by simp)
      have b2 : Below wr.heap.size wr W2 := by rw [← hW2]; exact below_alloc _ _
      obtain ⟨W3, hW3⟩ : ∃ W3, W2.setCell ⟨wr.heap.size, 0, none⟩ (.int .i64 (p : Int)) = W3 := ⟨_, rfl⟩
      have b3 : Below wr.heap.size wr W3 := by rw [← hW3]; exact b2.setCell (p := ⟨wr.heap.size, 0, none⟩) (Nat.le_refl _) _
      have q3 : W3.cell? ⟨wr.heap.size, 0, none⟩ = some (.int .i64 (p : Int)) := by rw [← hW3]; exact World.cell?_setCell_same _ _ _ q2
      have hb3 := hbr.trans (b3.mono hsz)
      have qt3 := cell_below qt hb3
      have HSp := hid_ (splits_calls aT n c T p W3 (HT1.out.below hb3 (Nat.le_refl _)) Hg.out (by omega))
      have hkc := HS1.out.le
      have hjk : j ≤ k := by omega
      have hjca : j ≤ ca := by omega
      have HCo := hid_ (fun W (hW : Below W3.heap.size W3 W) => containsS_calls w.heap.size wr.heap.size aT n c T p _ j ca (s.take j) W (cell_below qt3 hW) (cell_below q3 hW) ((HT1.out.below hb3 (Nat.le_refl _)).below hW (Nat.le_refl _)) (((HS1.out.below hb3 (Nat.le_refl _)).below hW (Nat.le_refl _)).take hjk) Hg.out (by omega) (fun i hi => by
        have e : (s.take j).getD i 0 = s.getD i 0 := by simp [List.getD, hi]
        rw [e]; exact Hr.out i (by omega)))
      have Hb3 := hid_ hb3
      clear hbr b2 b3 hb3 hrj hp
      cases hsp : splR T p with
      | false =>
        rw [hsp] at HSp hf
        have HR := hid_ (hno hf)
        clear hsp hf hno hyes'
        go_wp2_with (go_at_call 95; (with_reducible refine HSp.out.mono ?_); rintro e w4 ⟨rfl, hb4⟩)
        go_ret
        exact ⟨by rw [HR.out]; rfl, Hc1.out.trans ((Hb3.out.trans (hb4.mono Hb3.out.size)).mono Hc1.out.size)⟩
      | true =>
        rw [hsp, Bool.true_and] at hf
        rw [hsp] at HSp
        cases hany : (s.take j).any (fun x => cfR T p x.toNat) with
        | true =>
          rw [hany] at HCo hf
          have HR := hid_ (hno hf)
          clear hsp hf hno hyes' hany
          go_wp2_with (first
            | (go_at_call 95; (with_reducible refine HSp.out.mono ?_); rintro e w4 ⟨rfl, hb4⟩; have Hb4 := hid_ (Hb3.out.trans (hb4.mono Hb3.out.size)))
            | (go_at_call 121; (with_reducible refine (HCo.out _ hb4).mono ?_); rintro e w5 ⟨rfl, hb5⟩))
          go_ret
          exact ⟨by rw [HR.out]; rfl, Hc1.out.trans ((Hb4.out.trans (hb5.mono Hb4.out.size)).mono Hc1.out.size)⟩
        | false =>
          rw [hany] at HCo hf
          have Hy := hid_ (hyes' hf)
          clear hsp hf hno hyes' hany
          go_wp2_with (first
            | (go_at_call 95; (with_reducible refine HSp.out.mono ?_); rintro e w4 ⟨rfl, hb4⟩; have Hb4 := hid_ (Hb3.out.trans (hb4.mono Hb3.out.size)))
            | (go_at_call 121; (with_reducible refine (HCo.out _ hb4).mono ?_); rintro e w5 ⟨rfl, hb5⟩))
          go_roundw
          case rel => exact ⟨j + 1, by omega, by go_num, Hb4.out.trans (hb5.mono Hb4.out.size), Hy.out⟩
          case measure => simp [intOf]; omega
    · obtain rfl : j = k := by omega
      have HR := hid_ (HY.out Hall.out)
      go_wp2
      go_ret
      exact ⟨by rw [HR.out]; rfl, Hc1.out.trans (hbr.mono Hc1.out.size)⟩
end Go.Proofs.Ytdnlpikfibdjoaa
