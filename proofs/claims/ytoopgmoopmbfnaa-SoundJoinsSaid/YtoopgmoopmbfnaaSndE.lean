import Derived.Test.YtoopgmoopmbfnaaSndD
import Derived.Test.YtoopgmoopmbfnaaRange
import Derived.Deep.OwnRows
import Derived.RegionTactic
import Derived.ChangeAlike
import Derived.BigRegion
namespace Go.Proofs.Ytoopgmoopmbfnaa
open Go.RowKit Go.Proofs.Kv Go.Proofs.Snd

/-- block B is just the numbers l -/
def RowL (w : World) (B : Nat) (l : List Int) : Prop := w.rowIs B 3 l.length fun i => .int .i64 (l.getD i 0)
theorem RowL.put {w : World} {B : Nat} {l : List Int} (h : RowL w B l) (i : Nat) (x : Int) : RowL (w.setCell ⟨B, i, none⟩ (.int .i64 x)) B (l.set i x) := by
  unfold RowL at h ⊢
  rw [List.length_set]
  refine (World.rowIs.set h i (.int .i64 x)).congr fun j hj => ?_
  by_cases e : j = i
  · subst e
    simp [List.getD, hj]
  · rw [if_neg e]
    simp [List.getD, List.getElem?_set_ne (Ne.symm e)]
theorem RowL.ints {w : World} {B : Nat} {l : List Int} (h : RowL w B l) (hm : l.length ≤ 1000) : IntsAt w (some ⟨B, 0, none⟩) l.length l.length l :=
  ⟨rfl, Nat.le_refl _, by omega, fun i hi => ⟨B, 0, rfl, World.rowIs.lt h, by rw [Nat.zero_add]; exact World.rowIs.cell h hi⟩⟩

theorem grown_set {w w' : World} {B : Nat} (h : w.grownBy w' (some B)) (i : Nat) (v : Value) : w.grownBy (w'.setCell ⟨B, i, none⟩ v) (some B) :=
  ⟨h.os, h.tape, h.output, by simpa [World.setCell] using h.size, fun k hk hne => (Below.heap_setCell w' ⟨B, i, none⟩ v k (fun e => hne (by rw [e]))).trans (h.block k hk hne)⟩
theorem grown_drew {w w' : World} {row : Option Nat} (h : w.grownBy w' row) : w.grownBy w'.drew row := ⟨h.os, h.tape, h.output, h.size, h.block⟩
theorem grown_drewN {w w' : World} {row : Option Nat} (h : w.grownBy w' row) (q : Nat) : w.grownBy (w'.drewN q) row := ⟨h.os, h.tape, h.output, h.size, h.block⟩
theorem grown_trans {a b c : World} {row : Option Nat} (h : a.grownBy b row) (k : b.grownBy c row) : a.grownBy c row :=
  ⟨k.os.trans h.os, k.tape.trans h.tape, k.output.trans h.output, Nat.le_trans h.size k.size, fun i hi hne => (k.block i (Nat.lt_of_lt_of_le hi h.size) hne).trans (h.block i hi hne)⟩

def swapL (l : List Int) (i j : Nat) : List Int := (l.set i (l.getD j 0)).set j (l.getD i 0)
theorem swapL_len (l : List Int) (i j : Nat) : (swapL l i j).length = l.length := by simp [swapL]
def revK (l : List Int) (p : Nat) : Nat → List Int
  | 0 => l
  | k + 1 => swapL (revK l p k) (p + k) (l.length - 1 - k)
theorem revK_len (l : List Int) (p k : Nat) : (revK l p k).length = l.length := by
  induction k with
  | zero => rfl
  | succ k ih => rw [revK, swapL_len, ih]
def revL (l : List Int) (p : Nat) : List Int := revK l p ((l.length - p) / 2)

set_option maxRecDepth 100000 in
theorem reverse_calls (B p m c : Nat) (l : List Int) (w : World) (h : RowL w B l) (hl : l.length = p + m) (hm : l.length ≤ 1000) :
    Calls Try.prog 153 #[.slice (some ⟨B, p, none⟩) m c] w fun e w' => e = .returned (.tuple #[]) ∧ RowL w' B (revL l p) ∧ w.grownBy w' (some B) := by
  have hmm : m ≤ 1000 := by omega
  have Hrev : Hid (revL l p = revK l p (m / 2)) := hid_ (by rw [revL, hl, Nat.add_sub_cancel_left])
  have Hl := hid_ hl; clear hl hm
  go_enter Try.func153, Try.ntmps153
  go_wp2
  go_loopw [2, 3] (fun i j wr => ∃ k : Nat, k ≤ m / 2 ∧ i = .int .i64 k ∧ j = .int .i64 ((m : Int) - 1 - k) ∧ RowL wr B (revK l p k) ∧ w.grownBy wr (some B)) (fun i _ _ => m - (intOf i).toNat)
  case atStart => exact ⟨0, Nat.zero_le _, rfl, by simp, h, World.grownBy.refl _ _⟩
  case round =>
    obtain ⟨k, hk, rfl, rfl, hR, hg⟩ := hrel
    by_cases hlt : (k : Int) < (m : Int) - 1 - k
    · have hj0 : (0 : Int) ≤ (m : Int) - 1 - k := by omega
      have hjm : (m : Int) - 1 - k < m := by omega
      obtain ⟨j, hj⟩ : ∃ j : Nat, (m : Int) - 1 - k = j := ⟨m - 1 - k, by omega⟩
      have Hj := hid_ hj
      rw [hj] at hlt hj0 hjm ⊢
      clear hj
      have Hjj : Hid (l.length - 1 - k = p + j) := hid_ (by have := Hj.out; have := Hl.out; omega)
      have Hnx : Hid (revK l p (k + 1) = swapL (revK l p k) (p + k) (p + j)) := hid_ (by rw [revK, Hjj.out])
      have hlen : (revK l p k).length = p + m := by rw [revK_len]; exact Hl.out
      generalize revK l p k = r at hR hlen Hnx
      have hc1 : wr.cell? ⟨B, p + k, none⟩ = some (.int .i64 (r.getD (p + k) 0)) := World.rowIs.cell hR (by omega)
      have hc2 : wr.cell? ⟨B, p + j, none⟩ = some (.int .i64 (r.getD (p + j) 0)) := World.rowIs.cell hR (by omega)
      have hf : ∀ i, wr.frozen? ⟨B, i, none⟩ = false := fun i => World.rowIs.frozen hR i
      have hf1 := hf (p + k)
      have hf2 := hf (p + j)
      clear hf hlen
      generalize hx : r.getD (p + k) 0 = x at hc1
      generalize hy : r.getD (p + j) 0 = y at hc2
      have Hx := hid_ hx; clear hx
      have Hy := hid_ hy; clear hy
      have hkj : k < j := by omega
      go_wp2
      go_region
      have hR2 : RowL (((wr.setCell ⟨B, p + k, none⟩ (.int .i64 y)).setCell ⟨B, p + j, none⟩ (.int .i64 x)).drew) B (swapL r (p + k) (p + j)) := by
        have := (hR.put (p + k) y).put (p + j) x
        rw [swapL, Hx.out, Hy.out]; exact this
      have hg2 : w.grownBy (((wr.setCell ⟨B, p + k, none⟩ (.int .i64 y)).setCell ⟨B, p + j, none⟩ (.int .i64 x)).drew) (some B) := grown_drew (grown_set (grown_set hg _ _) _ _)
      have HR2 := hid_ hR2; clear hR2
      have Hg2 := hid_ hg2; clear hg2
      go_wp2
      go_roundw
      case rel => exact ⟨k + 1, by have := Hj.out; omega, by go_num, by have := Hj.out; congr 1; omega, by rw [Hnx.out]; exact HR2.out, Hg2.out⟩
      case measure => simp [intOf]; omega
    · have Hk : Hid (k = m / 2) := hid_ (by omega)
      go_wp2
      go_end0
      exact ⟨rfl, by rw [Hrev.out, ← Hk.out]; exact hR, hg⟩

/-! ### advance -/
def pivF (l : List Int) : Nat → Option Nat
  | 0 => none
  | m + 1 => if l.getD (m + 1) 0 < l.getD m 0 then pivF l m else some m
def sucF (l : List Int) (x : Int) : Nat → Nat
  | 0 => 0
  | m + 1 => if l.getD (m + 1) 0 < x then sucF l x m else m + 1
def nextP (l : List Int) (i : Nat) : List Int := revL (swapL l i (sucF l (l.getD i 0) (l.length - 1))) (i + 1)
def advL (l : List Int) : Option (List Int) := (pivF l (l.length - 1)).map (nextP l)
theorem pivF_some {l : List Int} : ∀ {m i : Nat}, pivF l m = some i → i < m ∧ ¬ l.getD (i + 1) 0 < l.getD i 0
  | 0, i, h => by cases h
  | m + 1, i, h => by
    unfold pivF at h
    by_cases hc : l.getD (m + 1) 0 < l.getD m 0
    · rw [if_pos hc] at h
      have := pivF_some h
      exact ⟨by omega, this.2⟩
    · rw [if_neg hc] at h
      injection h with h
      subst h
      exact ⟨by omega, hc⟩

set_option maxRecDepth 100000 in
set_option maxHeartbeats 400000 in
theorem advance_calls (B n : Nat) (l : List Int) (w : World) (h : RowL w B l) (hl : l.length = n) (hn1 : 1 ≤ n) (hm : n ≤ 1000) :
    Calls Try.prog 126 #[.slice (some ⟨B, 0, none⟩) n n] w fun e w' => w.grownBy w' (some B) ∧
      ((e = .returned (.bool false) ∧ advL l = none ∧ RowL w' B l) ∨ ∃ l', e = .returned (.bool true) ∧ advL l = some l' ∧ RowL w' B l') := by
  have hcell : ∀ i, i < n → w.cell? ⟨B, i, none⟩ = some (.int .i64 (l.getD i 0)) := fun i hi => World.rowIs.cell h (by omega)
  have Hc := hid_ hcell; clear hcell
  have Hl := hid_ hl; clear hl
  have HP : Hid (advL l = (pivF l (n - 1)).map (nextP l)) := hid_ (by rw [advL, Hl.out])
  go_enter Try.func126, Try.ntmps126
  go_wp2
  go_loopw [3] (fun i wr => ∃ m q : Nat, m ≤ n - 1 ∧ i = .int .i64 ((m : Int) - 1) ∧ wr = w.drewN q ∧ pivF l (n - 1) = pivF l m) (fun i _ => ((intOf i) + 1).toNat)
  case atStart => exact ⟨n - 1, 0, Nat.le_refl _, by congr 1; omega, rfl, rfl⟩
  case round =>
    obtain ⟨m, q, hmn, rfl, hq, hp⟩ := hrel
    have Hq := hid_ hq; clear hq
    have HR : Hid (RowL wr B l) := hid_ (by rw [Hq.out]; exact h)
    have Hcr : Hid (∀ i, i < n → wr.cell? ⟨B, i, none⟩ = some (.int .i64 (l.getD i 0))) := hid_ fun i hi => World.rowIs.cell HR.out (by rw [Hl.out]; exact hi)
    have Hg : Hid (w.grownBy wr (some B)) := hid_ (by rw [Hq.out]; exact grown_drewN (World.grownBy.refl _ _) q)
    have Hp := hid_ hp; clear hp
    cases m with
    | zero =>
      have hd : decide ((0 : Int) ≤ ((0 : Nat) : Int) - 1) = false := by simp
      have Hno : Hid (advL l = none) := hid_ (by rw [HP.out, Hp.out]; rfl)
      go_wp2
      go_quiet (fail)
      go_wp2
      go_ret
      exact ⟨grown_drewN Hg.out _, .inl ⟨rfl, Hno.out, HR.out⟩⟩
    | succ m =>
      rw [show ((m + 1 : Nat) : Int) - 1 = (m : Int) by omega]
      have hc1 := Hcr.out m (by omega)
      have hc2 := Hcr.out (m + 1) (by omega)
      have Hstep : Hid (pivF l (m + 1) = if l.getD (m + 1) 0 < l.getD m 0 then pivF l m else some m) := hid_ rfl
      have hz1 : ((m : Int) + 1).toNat = m + 1 := by omega
      have hz2 : IntKind.i64.wrap ((m : Int) + 1) = (m : Int) + 1 := IntWalk.i64_in _ (by omega)
      have hz3 : (m : Int) + 1 < (n : Int) := by omega
      have hz4 : (0 : Int) ≤ (m : Int) + 1 := by omega
      generalize hx : l.getD m 0 = x at hc1 Hstep
      generalize hy : l.getD (m + 1) 0 = y at hc2 Hstep
      have Hx := hid_ hx; clear hx
      have Hy := hid_ hy; clear hy
      by_cases hlt : y < x
      · have Hnx : Hid (pivF l (n - 1) = pivF l m) := hid_ (by rw [Hp.out, Hstep.out, if_pos hlt])
        go_wp2
        go_quiet (fail)
        clear hz1 hz2
        go_wp2
        go_roundw
        case rel => exact ⟨m, _, by omega, rfl, by rw [Hq.out, drewN2], Hnx.out⟩
        case measure => simp [intOf]
      · have Hpv : Hid (pivF l (n - 1) = some m) := hid_ (by rw [Hp.out, Hstep.out, if_neg hlt])
        go_wp2
        go_quiet (fail)
        clear hz1 hz2
        generalize hwq : wr.drewN _ = wq
        have Hwq := hid_ hwq; clear hwq
        have HRq : Hid (RowL wq B l) := hid_ (by rw [← Hwq.out]; exact HR.out)
        have Hgq : Hid (w.grownBy wq (some B)) := hid_ (by rw [← Hwq.out]; exact grown_drewN Hg.out _)
        clear Hcr
        go_wp2
        go_loopw [4] (fun j wr => ∃ k q : Nat, m < k ∧ k ≤ n - 1 ∧ j = .int .i64 (k : Int) ∧ wr = wq.drewN q ∧ sucF l x (n - 1) = sucF l x k) (fun j _ => (intOf j).toNat)
        case atStart => exact ⟨n - 1, 0, by omega, Nat.le_refl _, by congr 1; omega, rfl, rfl⟩
        case round =>
          obtain ⟨k, q2, hmk, hkn, rfl, hq2, hs⟩ := hrel
          have Hq2 := hid_ hq2; clear hq2
          have HR2 : Hid (RowL wr B l) := hid_ (by rw [Hq2.out]; exact HRq.out)
          have Hg2 : Hid (w.grownBy wr (some B)) := hid_ (by rw [Hq2.out]; exact grown_drewN Hgq.out q2)
          have Hs := hid_ hs; clear hs
          obtain ⟨k, rfl⟩ : ∃ k', k = k' + 1 := ⟨k - 1, by omega⟩
          have hc3 : wr.cell? ⟨B, m, none⟩ = some (.int .i64 x) := by rw [← Hx.out]; exact World.rowIs.cell HR2.out (by rw [Hl.out]; omega)
          have hc4 : wr.cell? ⟨B, k + 1, none⟩ = some (.int .i64 (l.getD (k + 1) 0)) := World.rowIs.cell HR2.out (by rw [Hl.out]; omega)
          have Hst2 : Hid (sucF l x (k + 1) = if l.getD (k + 1) 0 < x then sucF l x k else k + 1) := hid_ rfl
          have Hkm : Hid (l.getD (k + 1) 0 < x → m < k) := hid_ fun hh => by
            rcases Nat.lt_or_ge m k with h1 | h1
            · exact h1
            · obtain rfl : k = m := by omega
              rw [Hy.out] at hh; omega
          generalize hz : l.getD (k + 1) 0 = z at hc4 Hst2 Hkm
          have Hz := hid_ hz; clear hz
          have hkk : ((k + 1 : Nat) : Int) = (k : Int) + 1 := by omega
          rw [hkk]
          clear hkk
          have hz1 : ((k : Int) + 1).toNat = k + 1 := by omega
          have hz3 : (k : Int) + 1 < (n : Int) := by omega
          have hz4 : (0 : Int) ≤ (k : Int) + 1 := by omega
          by_cases hzx : z < x
          · have hmk2 := Hkm.out hzx
            have Hnx : Hid (sucF l x (n - 1) = sucF l x k) := hid_ (by rw [Hs.out, Hst2.out, if_pos hzx])
            go_wp2
            go_quiet (fail)
            go_wp2
            go_roundw
            case rel => exact ⟨k, _, hmk2, by omega, rfl, by rw [Hq2.out, drewN2], Hnx.out⟩
            case measure => simp [intOf]
          · have Hsuc : Hid (sucF l x (n - 1) = k + 1) := hid_ (by rw [Hs.out, Hst2.out, if_neg hzx])
            go_wp2
            go_quiet (fail)
            generalize hw3 : wr.drewN _ = w3
            have Hw3 := hid_ hw3; clear hw3
            have hR3 : RowL w3 B l := by rw [← Hw3.out]; exact HR2.out
            have Hg3 : Hid (w.grownBy w3 (some B)) := hid_ (by rw [← Hw3.out]; exact grown_drewN Hg2.out _)
            have hc5 : w3.cell? ⟨B, m, none⟩ = some (.int .i64 x) := by rw [← Hw3.out]; exact hc3
            have hc6 : w3.cell? ⟨B, k + 1, none⟩ = some (.int .i64 z) := by rw [← Hw3.out]; exact hc4
            have hf1 : w3.frozen? ⟨B, m, none⟩ = false := World.rowIs.frozen hR3 m
            have hf2 : w3.frozen? ⟨B, k + 1, none⟩ = false := World.rowIs.frozen hR3 (k + 1)
            have HR3 := hid_ hR3; clear hR3
            clear hc3 hc4
            have hmk3 : m < k + 1 := hmk
            go_wp2
            go_region
            have HR4 : Hid (RowL (((w3.setCell ⟨B, m, none⟩ (.int .i64 z)).setCell ⟨B, k + 1, none⟩ (.int .i64 x)).drew) B (swapL l m (k + 1))) := hid_ (by
              have := (HR3.out.put m z).put (k + 1) x
              rw [swapL, Hx.out, Hz.out]; exact this)
            have Hg4 : Hid (w.grownBy (((w3.setCell ⟨B, m, none⟩ (.int .i64 z)).setCell ⟨B, k + 1, none⟩ (.int .i64 x)).drew) (some B)) := hid_ (grown_drew (grown_set (grown_set Hg3.out _ _) _ _))
            generalize hw4 : ((w3.setCell ⟨B, m, none⟩ (.int .i64 z)).setCell ⟨B, k + 1, none⟩ (.int .i64 x)).drew = w4 at HR4 Hg4
            clear hw4 hc5 hc6 hf1 hf2
            have hz5 : ((m : Int) + 1).toNat = m + 1 := by omega
            have hz6 : (0 : Int) ≤ (m : Int) + 1 := by omega
            have hz7 : (m : Int) + 1 ≤ (n : Int) := by omega
            have hz8 : ¬ (n = m + 1) := by omega
            have hrev := reverse_calls B (m + 1) (n - (m + 1)) (n - (m + 1)) _ w4 HR4.out (by rw [swapL_len, Hl.out]; omega) (by rw [swapL_len, Hl.out]; exact hm)
            have Hrev := hid_ hrev; clear hrev
            have Hfin : Hid (advL l = some (revL (swapL l m (k + 1)) (m + 1))) := hid_ (by rw [HP.out, Hpv.out, Option.map_some, nextP, Hl.out, Hx.out, Hsuc.out])
            generalize revL (swapL l m (k + 1)) (m + 1) = lf at Hrev Hfin
            go_wp2_with (go_at_call 153; refine Hrev.out.mono ?_; rintro e w5 ⟨rfl, hR5, hg5⟩)
            go_ret
            exact ⟨grown_trans Hg4.out hg5, .inr ⟨lf, rfl, Hfin.out, hR5⟩⟩
end Go.Proofs.Ytoopgmoopmbfnaa
