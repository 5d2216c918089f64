import Derived.Test.YtahknodnjjmagaaZo
import Derived.Test.YtahknodnjjmagaaZr
namespace Go.Proofs.Ytahknodnjjmagaa
open Go.RowKit Go.Proofs.Kv
attribute [local go_sem] Oper.semAt_some

/-! ### the next cell -/
theorem ints_grown {w w' : World} {g : Nat} {a : Option Addr} {n c : Nat} {l : List Int} (hg : w.grownBy w' (some g)) (h : IntsAt w a n c l) (hd : ∀ b off, 0 < n → a = some ⟨b, off, none⟩ → b ≠ g) : IntsAt w' a n c l :=
  ⟨h.len, h.le, h.small, fun i hi => by
    obtain ⟨b, off, ha, hb, hc⟩ := h.cells i hi
    exact ⟨b, off, ha, Nat.lt_of_lt_of_le hb hg.size, hg.cell (a := ⟨b, off + i, none⟩) hc (fun e => hd b off (by omega) ha (Option.some.inj e))⟩⟩
set_option maxRecDepth 100000 in
set_option maxHeartbeats 2000000 in
theorem advance_calls (B : Nat) (sa : Option Addr) (n cs : Nat) (sizes c0 : List Int) (w : World) (hs : IntsAt w sa n cs sizes) (hd : ∀ b off, 0 < n → sa = some ⟨b, off, none⟩ → b ≠ B) (hR : RowL w B c0) (hl : c0.length = n) (hn : n ≤ 1000)
    (hb : ∀ j, j < n → (2 ≤ sizes.getD j 0 ∧ sizes.getD j 0 ≤ 3) ∧ 0 ≤ c0.getD j 0 ∧ c0.getD j 0 ≤ 2) :
    Calls Try.prog 113 #[.slice (some ⟨B, 0, none⟩) n n, .slice sa n cs] w fun e w' => w.grownBy w' (some B) ∧
      ((e = .returned (.bool false) ∧ advC sizes n c0 = none) ∨ ∃ c', e = .returned (.bool true) ∧ advC sizes n c0 = some c' ∧ RowL w' B c') := by
  have HS := hid_ (fun W (hW : w.grownBy W (some B)) => ints_grown hW hs hd)
  have HB := hid_ hb
  have HA : Hid (∀ m c, advC sizes (m + 1) c = if c.getD m 0 < sizes.getD m 0 - 1 then some (c.set m (c.getD m 0 + 1)) else advC sizes m (c.set m 0)) := hid_ (fun m c => rfl)
  have HA0 : Hid (∀ c, advC sizes 0 c = none) := hid_ (fun c => rfl)
  clear hs hd hb
  have Hl := hid_ hl; have HR := hid_ hR
  clear hl hR
  go_enter Try.func113, Try.ntmps113
  go_wp2
  go_loopw [5] (fun i wr => ∃ (m : Nat) (c : List Int), m ≤ n ∧ i = .int .i64 ((m : Int) - 1) ∧ RowL wr B c ∧ c.length = n ∧ advC sizes n c0 = advC sizes m c ∧ (∀ j, j < m → c.getD j 0 = c0.getD j 0) ∧ w.grownBy wr (some B)) (fun i _ => ((intOf i) + 1).toNat)
  case atStart => exact ⟨n, c0, Nat.le_refl _, by congr 1, HR.out, Hl.out, rfl, fun _ _ => rfl, grown_refl _ _⟩
  case round =>
    obtain ⟨m, c, hmn, rfl, hR, hcl, hadv, hsame, hg⟩ := hrel
    cases m with
    | zero =>
      have Hf := hid_ (hadv.trans (HA0.out c))
      have hd : decide ((0 : Int) ≤ ((0 : Nat) : Int) - 1) = false := by simp
      clear hadv
      go_wp2
      go_ret
      exact ⟨hg, .inl ⟨rfl, Hf.out⟩⟩
    | succ m =>
      obtain ⟨bs, offs, rfl, -, hcs⟩ := (HS.out wr hg).cells m (by omega)
      have hc : wr.cell? ⟨B, m, none⟩ = some (.int .i64 (c.getD m 0)) := World.rowIs.cell hR (by omega)
      have hf : wr.frozen? ⟨B, m, none⟩ = false := World.rowIs.frozen hR m
      obtain ⟨⟨y2, y3⟩, x0, x2⟩ := HB.out m (by omega)
      rw [← hsame m (by omega)] at x0 x2
      have hst := HA.out m c
      have Hsame := hid_ (fun j (hj : j < m) => hsame j (by omega))
      have Hput := hid_ (fun x => RowL.put hR m x)
      have Hadv := hid_ hadv
      have Hg := hid_ hg
      have Hcl := hid_ hcl
      rw [show ((m + 1 : Nat) : Int) - 1 = (m : Int) by omega]
      have hmn' : (m : Int) < (n : Int) := by omega
      clear hR hadv hsame hg hcl
      generalize c.getD m 0 = x at *
      generalize sizes.getD m 0 = y at *
      have hwy : IntKind.i64.wrap (y - 1) = y - 1 := IntWalk.i64_in _ (by omega)
      by_cases hxy : x < y - 1
      · rw [if_pos hxy] at hst
        have Hst := hid_ hst
        clear hst
        go_wp2_with fail
        go_quiet (fail)
        clear hwy
        have hwx : IntKind.i64.wrap (x + 1) = x + 1 := IntWalk.i64_in _ (by omega)
        go_wp2
        go_ret
        exact ⟨grown_set (grown_drewN Hg.out _) _ _, .inr ⟨_, rfl, Hadv.out.trans Hst.out, Hput.out _⟩⟩
      · rw [if_neg hxy] at hst
        have Hst := hid_ hst
        clear hst
        go_wp2_with fail
        go_quiet (fail)
        clear hwy
        go_wp2
        go_roundw
        case rel =>
          refine ⟨m, c.set m 0, by omega, rfl, Hput.out 0, by simp [Hcl.out], Hadv.out.trans Hst.out, fun j hj => ?_, grown_set (grown_drewN Hg.out _) _ _⟩
          rw [← Hsame.out j hj]
          simp [List.getD, List.getElem?_set_ne (show m ≠ j by omega)]
        case measure => simp [intOf]
end Go.Proofs.Ytahknodnjjmagaa
