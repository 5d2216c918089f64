import Derived.Test.YtahknodnjjmagaaZm
namespace Go.Proofs.Ytahknodnjjmagaa
open Go.RowKit Go.Proofs.Kv

/-! ### the entry that decides: the program's -/
def goodB (P : Par) (L : List Int) (x : Int) : Bool := !(L.any fun y => stopB P x.toNat y.toNat)
def decP (P : Par) (L : List Int) : Int × Bool := match L.find? (goodB P L) with | some x => (x, true) | none => (0, false)
theorem find_hit {L : List Int} {p : Int → Bool} {k : Nat} (hk : k < L.length) (hb : ∀ j, j < k → p (L.getD j 0) = false) (h : p (L.getD k 0) = true) : L.find? p = some (L.getD k 0) := by
  have e : ∀ j (hj : j < L.length), L.getD j 0 = L[j] := fun j hj => by simp [List.getD, List.getElem?_eq_getElem hj]
  rw [List.find?_eq_some_iff_getElem]
  refine ⟨h, k, hk, (e k hk).symm, fun j hj => ?_⟩
  have := hb j hj
  rw [e j (by omega)] at this
  rw [this]; rfl
theorem find_no {L : List Int} {p : Int → Bool} (hb : ∀ j, j < L.length → p (L.getD j 0) = false) : L.find? p = none := by
  rw [List.find?_eq_none]
  intro x hx
  obtain ⟨i, hi, rfl⟩ := List.mem_iff_getElem.1 hx
  have := hb i hi
  rw [show L.getD i 0 = L[i] by simp [List.getD, List.getElem?_eq_getElem hi]] at this
  rw [this]; simp
theorem mat_at {P : Par} {l : List Int} {k : Nat} (hk : k < (matL P l).length) : ∃ x : Nat, (matL P l).getD k 0 = (x : Int) ∧ x < P.ents.length := by
  rw [show (matL P l).getD k 0 = (matL P l)[k] by simp [List.getD, List.getElem?_eq_getElem hk]]
  have hm := List.getElem_mem hk
  simp only [matL, matK, List.mem_map, List.mem_filter, List.mem_range] at hm
  obtain ⟨x, ⟨hx, -⟩, e⟩ := hm
  exact ⟨x, e.symm, hx⟩
set_option maxRecDepth 100000 in
set_option maxHeartbeats 4000000 in
theorem cedecides_calls (v : Value) (P : Par) (a : Option Addr) (n c : Nat) (l : List Int) (w : World) (h : ParAt w v P) (hl : IntsAt w a n c l) (hv : validP P = 0) (hs : P.sizes.length = n) :
    Calls Try.prog 79 #[v, .slice a n c] w fun e w' => e = .returned (.tuple #[.int .i64 (decP P (matL P l)).1, .bool (decP P (matL P l)).2]) ∧ Below w.heap.size w w' := by
  have HP := hid_ h
  obtain ⟨a1, n1, c1, a2, n2, c2, rfl, h1, h2⟩ := h
  obtain ⟨w1, hw1⟩ : ∃ w1, w.alloc (.cells #[.slice a1 n1 c1, .slice a2 n2 c2] 25) = w1 := ⟨_, rfl⟩
  have cb : Below w.heap.size w w1 := by rw [← hw1]; exact below_alloc _ _
  have q0 : w1.cell? ⟨w.heap.size, 0, none⟩ = some (.slice a1 n1 c1) := by rw [← hw1]; exact cells_alloc _ _ _ 0
  have q1 : w1.cell? ⟨w.heap.size, 1, none⟩ = some (.slice a2 n2 c2) := by rw [← hw1]; exact cells_alloc _ _ _ 1
  have HP1 := hid_ (HP.out.below cb (Nat.le_refl _)); have Hc1 := hid_ cb; have Hv := hid_ hv
  have HM := hid_ (cematches_calls _ P a n c l w1 HP1.out (hl.below cb (Nat.le_refl _)) hv hs)
  have hmf : ∀ (fn : Fn) (first cap : Array Value) (w : World), (Instr.makeFunc fn first cap).run Try.prog w = .ok (.func fn first cap) w := fun _ _ _ _ => rfl
  have HD : Hid (∀ L, decP P L = match L.find? (goodB P L) with | some x => (x, true) | none => (0, false)) := hid_ (fun L => rfl)
  have HG : Hid (∀ L x, goodB P L x = !(L.any fun y => stopB P x.toNat y.toNat)) := hid_ (fun _ _ => rfl)
  have HA := hid_ (fun k (hk : k < (matL P l).length) => @mat_at P l k hk)
  have hle : (matL P l).length ≤ 10 := Nat.le_trans (matK_le P l _) (validP_ok hv).2.2.1
  clear h1 h2 hl cb hv hs
  generalize matL P l = L at *
  go_enter Try.func79, Try.ntmps79
  go_wp2_with (go_at_call 76; (with_reducible refine HM.out.mono ?_); rintro e w2 ⟨v2, rfl, hm⟩; obtain ⟨a5, c5, rfl, hi5⟩ := hm.at_; have q0b := cell_below q0 hm.bel; have q1b := cell_below q1 hm.bel)
  have HL := hid_ hi5; have Hb := hid_ hm.bel
  clear hi5 hm q0 q1
  go_loopw [14] (fun i wr => ∃ k : Nat, k ≤ L.length ∧ i = .int .i64 k ∧ Below w2.heap.size w2 wr ∧ ∀ j, j < k → goodB P L (L.getD j 0) = false) (fun i _ => L.length - (intOf i).toNat)
  case atStart => exact ⟨0, Nat.zero_le _, rfl, Below.refl _ _, fun _ h => absurd h (by omega)⟩
  case round =>
    obtain ⟨k, hk, rfl, hb, hall⟩ := hrel
    have Hall := hid_ hall
    clear hall
    by_cases hlt : k < L.length
    · obtain ⟨b, off, rfl, -, hcell⟩ := (HL.out.below hb (Nat.le_refl _)).cells k hlt
      have hhit := fun hh => @find_hit L (goodB P L) k hlt Hall.out hh
      have hy := fun hx => lt_snoc (p := fun j => goodB P L (L.getD j 0) = false) Hall.out hx
      obtain ⟨x, hx, hxl⟩ := HA.out k hlt
      have hg := HG.out L (x : Int)
      rw [Int.toNat_natCast] at hg
      rw [hx] at hcell hhit hy
      obtain ⟨wb, hwb⟩ : ∃ wb, wr.alloc (.cells #[.int .i64 (x : Int)] 3) = wb := ⟨_, rfl⟩
      have hcb : Below wr.heap.size wr wb := by rw [← hwb]; exact below_alloc _ _
      have u0 : wb.cell? ⟨wr.heap.size, 0, none⟩ = some (.int .i64 (x : Int)) := by rw [← hwb]; exact cells_alloc _ _ _ 0
      have hbb := hb.trans (hcb.mono hb.size)
      have HC := hid_ (containsFunc_calls _ _ _ L (.pointer (some ⟨wr.heap.size, 0, none⟩)) (.pointer (some ⟨w.heap.size, 0, none⟩)) (fun y => stopB P x y.toNat) wb (HL.out.below hbb (Nat.le_refl _)) (fun W hW j hj => by
        obtain ⟨y, hy, hyl⟩ := HA.out j hj
        rw [hy, Int.toNat_natCast]
        exact decides1_calls P x y wr.heap.size w.heap.size a1 n1 c1 a2 n2 c2 W (cell_below u0 hW) (cell_below (cell_below q0b hbb) hW) (cell_below (cell_below q1b hbb) hW) (HP1.out.below (Hb.out.trans ((hbb.trans (hW.mono hbb.size)).mono Hb.out.size)) (Nat.le_refl _)) Hv.out hxl hyl))
      have Hbb := hid_ hbb
      clear hx hxl hb hcb hbb
      generalize (L.any fun y => stopB P x y.toNat) = z at *
      cases z with
      | false =>
        have Hf : Hid (decP P L = ((x : Int), true)) := hid_ (by rw [HD.out, hhit (by rw [hg]; rfl)])
        clear hhit hy hg
        go_wp2_with (go_at_call 115; (with_reducible refine HC.out.mono ?_); rintro e w5 ⟨rfl, hb5⟩; have u5 := cell_below u0 hb5)
        go_ret2
        exact ⟨by rw [Hf.out]; rfl, Hc1.out.trans ((Hb.out.trans ((Hbb.out.trans (hb5.mono Hbb.out.size)).mono Hb.out.size)).mono Hc1.out.size)⟩
      | true =>
        have Hf := hid_ (hy (by rw [hg]; rfl))
        clear hhit hy hg
        go_wp2_with (go_at_call 115; (with_reducible refine HC.out.mono ?_); rintro e w5 ⟨rfl, hb5⟩)
        go_roundw
        case rel => exact ⟨k + 1, by omega, by go_num, Hbb.out.trans (hb5.mono Hbb.out.size), Hf.out⟩
        case measure => simp [intOf]; omega
    · obtain rfl : L.length = k := by omega
      have Hf : Hid (decP P L = (0, false)) := hid_ (by rw [HD.out, find_no Hall.out])
      go_wp2
      go_ret2
      exact ⟨by rw [Hf.out]; rfl, Hc1.out.trans ((Hb.out.trans (hb.mono Hb.out.size)).mono Hc1.out.size)⟩
end Go.Proofs.Ytahknodnjjmagaa
