import Derived.Test.YtoopgmoopmbfnaaFy
namespace Go.Proofs.Ytoopgmoopmbfnaa
open Go.RowKit Go.Proofs.Kv Go.Proofs.Snd

/-! ### slices.BinarySearchFunc over lists in ascending order -/
def BsPost (d : Bool) (w : World) (e : Ending) (w' : World) : Prop := ∃ i : Int, e = .returned (.tuple #[.int .i64 i, .bool d]) ∧ w = w'
set_option maxRecDepth 100000 in
theorem bsearch_calls (a : Option Addr) (n c : Nat) (L : List (List Int)) (a' : Option Addr) (n' c' : Nat) (s : List Int) (w : World) (h : ListsAt w a n c L) (h' : IntsAt w a' n' c' s) (hs : L.Pairwise LtL) (hn : n ≤ 100000) :
    Calls Try.prog 63 #[.slice a n c, .slice a' n' c', .func (.func 64) #[] #[]] w (BsPost (decide (s ∈ L)) w) := by
  have hent : ∀ args W, (callFunc 64 args).run Try.prog W = .ok (.enter 64 args) W := enters_of Try.func64 (by kernel_rfl) rfl
  go_enter Try.func63, Try.ntmps63
  go_wp2
  go_loop [9, 10] (fun i j => ∃ x y : Nat, x ≤ y ∧ y ≤ n ∧ i = .int .i64 x ∧ j = .int .i64 y ∧ (∀ k, k < x → cmpL (L.getD k []) s < 0) ∧ (∀ k, y ≤ k → k < n → 0 ≤ cmpL (L.getD k []) s)) (fun i j => (intOf j - intOf i).toNat)
  case atStart => exact ⟨0, n, Nat.zero_le _, Nat.le_refl _, rfl, rfl, fun k hk => absurd hk (by omega), fun k h1 h2 => absurd h2 (by omega)⟩
  case round =>
    obtain ⟨x, y, hxy, hy, rfl, rfl, h1, h2⟩ := hrel
    have H1 := hid_ h1
    have H2 := hid_ h2
    clear h1 h2
    by_cases hlt : x < y
    · obtain ⟨b, off, a1, n1, c1, rfl, hb, hcell, hrow⟩ := h.cells ((x + y) / 2) (by omega)
      have hm1 : (x + y) / 2 < y := by omega
      have hm0 : x ≤ (x + y) / 2 := by omega
      have Hc := hid_ (cmpL_calls _ _ _ _ _ _ _ _ w hrow h')
      have Hlen := hid_ h.len
      by_cases hc : cmpL (L.getD ((x + y) / 2) []) s < 0
      · have Hn : Hid (∀ k, k < (x + y) / 2 + 1 → cmpL (L.getD k []) s < 0) := hid_ (fun k hk => by
          by_cases e : k = (x + y) / 2
          · subst e; exact hc
          · have hlt' : LtL (L.getD k []) (L.getD ((x + y) / 2) []) := by
              have hk1 : k < L.length := by have := Hlen.out; omega
              have hk2 : (x + y) / 2 < L.length := by have := Hlen.out; omega
              have := (List.pairwise_iff_getElem.1 hs) k ((x + y) / 2) hk1 hk2 (by omega)
              rw [getD_at hk1, getD_at hk2]; exact this
            exact cmpL_trans (of_decide_eq_true hlt') hc)
        generalize cmpL (L.getD ((x + y) / 2) []) s = z at *
        go_wp2_with (go_at_call 64; refine (Hc.out).mono ?_; rintro e w' ⟨rfl, rfl⟩)
        go_round
        case rel => exact ⟨(x + y) / 2 + 1, y, by omega, by omega, by go_num, rfl, Hn.out, H2.out⟩
        case measure => simp [intOf]; omega
      · have Hn : Hid (∀ k, (x + y) / 2 ≤ k → k < n → 0 ≤ cmpL (L.getD k []) s) := hid_ (fun k hk hkn => by
          by_cases e : k = (x + y) / 2
          · subst e; omega
          · have hlt' : LtL (L.getD ((x + y) / 2) []) (L.getD k []) := by
              have hk1 : k < L.length := by have := Hlen.out; omega
              have hk2 : (x + y) / 2 < L.length := by have := Hlen.out; omega
              have := (List.pairwise_iff_getElem.1 hs) ((x + y) / 2) k hk2 hk1 (by omega)
              rw [getD_at hk1, getD_at hk2]; exact this
            have a1 : cmpL (L.getD ((x + y) / 2) []) (L.getD k []) < 0 := of_decide_eq_true hlt'
            rcases Int.lt_trichotomy (cmpL (L.getD k []) s) 0 with h | h | h
            · exact absurd (cmpL_trans a1 h) hc
            · omega
            · omega)
        have hc0 : 0 ≤ cmpL (L.getD ((x + y) / 2) []) s := by omega
        generalize cmpL (L.getD ((x + y) / 2) []) s = z at *
        have hz : ¬ z < 0 := by omega
        go_wp2_with (go_at_call 64; refine (Hc.out).mono ?_; rintro e w' ⟨rfl, rfl⟩)
        go_round
        case rel => exact ⟨x, (x + y) / 2, by omega, by omega, rfl, by go_num, H1.out, Hn.out⟩
        case measure => simp [intOf]; omega
    · obtain rfl : x = y := by omega
      have Hlen := hid_ h.len
      have Hnot : Hid (∀ k, k < n → k ≠ x → L.getD k [] ≠ s) := hid_ (fun k hk hkx e => by
        rcases Nat.lt_or_ge k x with h | h
        · have := H1.out k h
          rw [e, cmpL_self] at this; omega
        · have a1 := H2.out x (Nat.le_refl _) (by omega)
          have hk1 : k < L.length := by have := Hlen.out; omega
          have hk2 : x < L.length := by omega
          have := (List.pairwise_iff_getElem.1 hs) x k hk2 hk1 (by omega)
          rw [← getD_at hk1, ← getD_at hk2, e] at this
          have : cmpL (L.getD x []) s < 0 := of_decide_eq_true this
          omega)
      have Hmem : Hid (s ∈ L ↔ x < n ∧ L.getD x [] = s) := hid_ ⟨fun hm => by
        obtain ⟨i, hi, e⟩ := List.mem_iff_getElem.1 hm
        have e' : L.getD i [] = s := by rw [getD_at hi]; exact e
        have hin : i < n := by have := Hlen.out; omega
        by_cases hx : i = x
        · subst hx; exact ⟨hin, e'⟩
        · exact absurd e' (Hnot.out i hin hx), fun ⟨h1, h2⟩ => by
        have hk : x < L.length := by have := Hlen.out; omega
        rw [← h2, getD_at hk]; exact List.getElem_mem _⟩
      by_cases hxn : x < n
      · obtain ⟨b, off, a1, n1, c1, rfl, hb, hcell, hrow⟩ := h.cells x hxn
        have Hc := hid_ (cmpL_calls _ _ _ _ _ _ _ _ w hrow h')
        by_cases hz : cmpL (L.getD x []) s = 0
        · have Hd : Hid (decide (s ∈ L) = true) := hid_ (decide_eq_true (Hmem.out.2 ⟨hxn, cmpL_eq hz⟩))
          rw [hz] at Hc
          clear hz
          go_wp2_with (go_at_call 64; refine (Hc.out).mono ?_; rintro e w' ⟨rfl, rfl⟩)
          go_ret2
          exact ⟨x, by rw [Hd.out]; rfl, rfl⟩
        · have Hd : Hid (decide (s ∈ L) = false) := hid_ (decide_eq_false fun hm => hz (by rw [(Hmem.out.1 hm).2, cmpL_self]))
          generalize cmpL (L.getD x []) s = z at *
          have hq : (z == 0) = false := by simpa using hz
          go_wp2_with (go_at_call 64; refine (Hc.out).mono ?_; rintro e w' ⟨rfl, rfl⟩)
          go_ret2
          exact ⟨x, by rw [Hd.out]; rfl, rfl⟩
      · have Hd : Hid (decide (s ∈ L) = false) := hid_ (decide_eq_false fun hm => hxn (Hmem.out.1 hm).1)
        obtain rfl : x = n := by omega
        have hq : decide (x < x) = false := by simp
        clear hlt hxn hxy hy
        go_wp2
        go_ret2
        exact ⟨x, by rw [Hd.out]; rfl, rfl⟩
end Go.Proofs.Ytoopgmoopmbfnaa
