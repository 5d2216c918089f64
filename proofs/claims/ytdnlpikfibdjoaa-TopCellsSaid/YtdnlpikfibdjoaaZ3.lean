import Derived.Test.YtdnlpikfibdjoaaZ1
namespace Go.Proofs.Ytdnlpikfibdjoaa
open Go.RowKit Go.Proofs.Kv

/-! ### Fill, IsFull -/
set_option maxRecDepth 100000 in
set_option maxHeartbeats 4000000 in
theorem ceFill_calls (v : Value) (P : Par) (w : World) (h : ParAt w v P) :
    Calls Try.prog 30 #[v] w fun e w' => ∃ v', e = .returned (.tuple #[v', .int .i64 (validP P)]) ∧ Made 3 w w' v' (resFill P) := by
  have HP := hid_ h
  obtain ⟨a1, n1, c1, a2, n2, c2, rfl, h1, h2⟩ := h
  obtain ⟨w1, hw1⟩ : ∃ w1, w.alloc (.cells #[.slice a1 n1 c1, .slice a2 n2 c2] 25) = w1 := ⟨_, rfl⟩
  have cb : Below w.heap.size w w1 := by rw [← hw1]; exact below_alloc _ _
  have q0 : w1.cell? ⟨w.heap.size, 0, none⟩ = some (.slice a1 n1 c1) := by rw [← hw1]; exact cells_alloc _ _ _ 0
  have q1 : w1.cell? ⟨w.heap.size, 1, none⟩ = some (.slice a2 n2 c2) := by rw [← hw1]; exact cells_alloc _ _ _ 1
  have HP1 := hid_ (HP.out.below cb (Nat.le_refl _)); have Hc1 := hid_ cb
  have HE := hid_ (ceValidate_calls _ P w1 HP1.out)
  clear h1 h2 cb
  have HR : Hid (resFill P = if validP P = 0 then fillL P else []) := hid_ rfl
  generalize hR : resFill P = R at *
  by_cases he : validP P = 0
  · have Hf := hid_ (HR.out.trans (if_pos he))
    have HM := hid_ (fun W (hW : Below w1.heap.size w1 W) => cefill_calls _ P W (HP1.out.below hW (Nat.le_refl _)) he)
    rw [he] at HE ⊢
    clear he hR HR
    go_enter Try.func30, Try.ntmps30
    go_wp2_with (first
      | (go_at_call 52; (with_reducible refine HE.out.mono ?_); rintro e w2 ⟨rfl, hb3⟩; have q0b := cell_below q0 hb3; have q1b := cell_below q1 hb3)
      | (go_at_call 76; (with_reducible refine (HM.out _ hb3).mono ?_); rintro e w4 ⟨v4, rfl, hm⟩))
    go_ret2
    exact ⟨_, rfl, by rw [Hf.out]; exact hm.after (Hc1.out.trans (hb3.mono Hc1.out.size))⟩
  · have Hf := hid_ (HR.out.trans (if_neg he))
    have hq : (validP P != 0) = true := by simpa using he
    generalize validP P = x at *
    clear he hR HR
    go_enter Try.func30, Try.ntmps30
    go_wp2_with (go_at_call 52; (with_reducible refine HE.out.mono ?_); rintro e w2 ⟨rfl, hb3⟩)
    go_ret2
    exact ⟨_, rfl, by rw [Hf.out]; exact Made.none_ _ (Hc1.out.trans (hb3.mono Hc1.out.size))⟩
theorem index_calls (a : Option Addr) (n c : Nat) (L : List Int) (x : Int) (w : World) (h : IntsAt w a n c L) :
    Calls Try.prog 142 #[.slice a n c, .int .i64 x] w fun e w' => ∃ r : Int, e = .returned (.int .i64 r) ∧ decide (0 ≤ r) = Has L x ∧ w = w' := by
  have hn : n ≤ 9223372036854775807 := Nat.le_trans h.le h.small
  go_enter Try.func142, Try.ntmps142
  go_wp2
  go_loop [8] (fun i => ∃ k : Nat, k ≤ n ∧ i = .int .i64 k ∧ ∀ j, j < k → L.getD j 0 ≠ x) (fun i => n - (intOf i).toNat)
  case atStart => exact ⟨0, Nat.zero_le _, rfl, fun _ h => absurd h (by omega)⟩
  case round =>
    obtain ⟨k, hk, rfl, hno⟩ := hrel
    have Hno := hid_ hno; clear hno
    by_cases hlt : k < n
    · obtain ⟨b, off, rfl, hb, hcell⟩ := h.cells k hlt
      generalize hy : L.getD k 0 = y at hcell
      have Hy := hid_ hy; clear hy
      by_cases he : x = y
      · have hq : (x == y) = true := by simpa using he
        have He := hid_ he; clear he
        have Hf : Hid (Has L x = true) := hid_ (Has_iff.2 (by rw [He.out, ← Hy.out]; exact getD_mem (by rw [h.len]; exact hlt)))
        go_wp2
        go_ret
        exact ⟨_, rfl, by rw [Hf.out]; exact decide_eq_true (Int.natCast_nonneg k), rfl⟩
      · have hq : (x == y) = false := by simpa using he
        have He := hid_ he; clear he
        go_wp2
        go_round
        case rel => exact ⟨k + 1, by omega, by go_num, lt_snoc Hno.out (by rw [Hy.out]; exact fun e => He.out e.symm)⟩
        case measure => simp [intOf]; omega
    · have HH : Hid (Has L x = false) := by
        refine hid_ (Bool.eq_false_iff.2 fun hc => ?_)
        obtain ⟨i, hi, hx⟩ := mem_getD (Has_iff.1 hc)
        exact Hno.out i (by have := h.len; omega) hx
      go_wp2
      go_ret
      exact ⟨_, rfl, by rw [HH.out]; rfl, rfl⟩
theorem contains_calls (a : Option Addr) (n c : Nat) (L : List Int) (x : Int) (w : World) (h : IntsAt w a n c L) :
    Calls Try.prog 134 #[.slice a n c, .int .i64 x] w fun e w' => e = .returned (.bool (Has L x)) ∧ w = w' := by
  have HI := hid_ (index_calls a n c L x w h)
  clear h
  go_enter Try.func134, Try.ntmps134
  go_wp2_with (go_at_call 142; (with_reducible refine HI.out.mono ?_); rintro e w4 ⟨r, rfl, hr, rfl⟩)
  all_goals go_ret
  all_goals first
    | exact ⟨by rw [← hr]; simp_all, rfl⟩
    | exact ⟨by rw [← hr], rfl⟩
def resFull (P : Par) : Bool := if validP P = 0 then !Has (fillL P) (-1) else false
/-! ### the law's inside -/
def LongP (P : Par) : Bool := decide (100 < P.sizes.length) || (decide (50 < P.ents.length) || P.ents.any fun e => decide (100 < e.spec.length))
theorem large_calls (a : Option Addr) (n c : Nat) (L : List Int) (w : World) (h : IntsAt w a n c L) :
    Calls Try.prog 50 #[.slice a n c] w fun e w' => e = .returned (.bool (decide (100 < n))) ∧ w = w' := by
  have hn : n ≤ 9223372036854775807 := Nat.le_trans h.le h.small
  by_cases h1 : 100 < n
  · have h2 : 100 < (n : Int) := by omega
    rw [decide_eq_true h1]
    clear h1
    go_enter Try.func50, Try.ntmps50
    go_wp2
    go_ret
    exact ⟨rfl, rfl⟩
  · have h2 : ¬ 100 < (n : Int) := by omega
    rw [decide_eq_false h1]
    clear h1
    go_enter Try.func50, Try.ntmps50
    go_wp2
    go_ret
    exact ⟨rfl, rfl⟩
set_option maxRecDepth 100000 in
set_option maxHeartbeats 4000000 in
theorem long_calls (v : Value) (P : Par) (w : World) (h : ParAt w v P) :
    Calls Try.prog 8 #[v] w fun e w' => e = .returned (.bool (LongP P)) ∧ Below w.heap.size w w' := by
  have HP := hid_ h
  obtain ⟨a1, n1, c1, a2, n2, c2, rfl, h1, h2⟩ := h
  obtain ⟨w1, hw1⟩ : ∃ w1, w.alloc (.cells #[.slice a1 n1 c1, .slice a2 n2 c2] 25) = w1 := ⟨_, rfl⟩
  have cb : Below w.heap.size w w1 := by rw [← hw1]; exact below_alloc _ _
  have q0 : w1.cell? ⟨w.heap.size, 0, none⟩ = some (.slice a1 n1 c1) := by rw [← hw1]; exact cells_alloc _ _ _ 0
  have q1 : w1.cell? ⟨w.heap.size, 1, none⟩ = some (.slice a2 n2 c2) := by rw [← hw1]; exact cells_alloc _ _ _ 1
  have HP1 := hid_ (HP.out.below cb (Nat.le_refl _)); have Hc1 := hid_ cb
  have HI := hid_ (large_calls a1 n1 c1 _ w1 (h1.below cb (Nat.le_refl _)))
  have H2 := hid_ (h2.below cb (Nat.le_refl _))
  have hn2 : n2 ≤ 9223372036854775807 := Nat.le_trans h2.le h2.small
  have HL : Hid (LongP P = (decide (100 < n1) || (decide (50 < n2) || P.ents.any fun e => decide (100 < e.spec.length)))) := hid_ (by rw [LongP, h1.len, h2.len])
  have HNo := hid_ (fun hall => any_no (p := fun e : Ent => decide (100 < e.spec.length)) E0 h2.len hall)
  have HHi := hid_ (fun k (hk : k < n2) hh => any_hit (p := fun e : Ent => decide (100 < e.spec.length)) (k := k) E0 (by rw [h2.len]; exact hk) hh)
  clear h1 h2 cb
  by_cases hl : 100 < n1
  · have Hf : Hid (LongP P = true) := hid_ (by rw [HL.out, decide_eq_true hl]; rfl)
    rw [decide_eq_true hl] at HI
    clear hl
    go_enter Try.func8, Try.ntmps8
    go_wp2_with (go_at_call 50; (with_reducible refine HI.out.mono ?_); rintro e w2 ⟨rfl, rfl⟩)
    go_ret
    exact ⟨retB Hf.out, Hc1.out⟩
  · have HL2 : Hid (LongP P = (decide (50 < n2) || P.ents.any fun e => decide (100 < e.spec.length))) := hid_ (by rw [HL.out, decide_eq_false hl]; rfl)
    rw [decide_eq_false hl] at HI
    clear hl
    by_cases h5 : 50 < n2
    · have Hf : Hid (LongP P = true) := hid_ (by rw [HL2.out, decide_eq_true h5]; rfl)
      have h5' : 50 < (n2 : Int) := by omega
      clear h5
      go_enter Try.func8, Try.ntmps8
      go_wp2_with (go_at_call 50; (with_reducible refine HI.out.mono ?_); rintro e w2 ⟨rfl, rfl⟩)
      go_ret
      exact ⟨retB Hf.out, Hc1.out⟩
    · have HL3 : Hid (LongP P = P.ents.any fun e => decide (100 < e.spec.length)) := hid_ (by rw [HL2.out, decide_eq_false h5]; rfl)
      have h5' : ¬ 50 < (n2 : Int) := by omega
      clear h5
      go_enter Try.func8, Try.ntmps8
      go_wp2_with (go_at_call 50; (with_reducible refine HI.out.mono ?_); rintro e w2 ⟨rfl, rfl⟩)
      go_loop [3] (fun i => ∃ k : Nat, k ≤ n2 ∧ i = .int .i64 k ∧ ∀ j, j < k → decide (100 < (P.ents.getD j E0).spec.length) = false) (fun i => n2 - (intOf i).toNat)
      case atStart => exact ⟨0, Nat.zero_le _, rfl, fun _ h => absurd h (by omega)⟩
      case round =>
        obtain ⟨k, hk, rfl, hall⟩ := hrel
        have Hall := hid_ hall
        clear hall
        by_cases hlt : k < n2
        · obtain ⟨b, off, a3, n3, c3, rfl, -, k0, k1, hi⟩ := H2.out.cells k hlt
          have HA := hid_ (large_calls a3 n3 c3 _ w1 hi)
          have Hl : Hid ((P.ents.getD k E0).spec.length = n3) := hid_ hi.len
          have hhi := HHi.out k hlt
          rw [Hl.out] at hhi
          have hy := fun hx => lt_snoc (p := fun j => decide (100 < (P.ents.getD j E0).spec.length) = false) Hall.out hx
          rw [Hl.out] at hy
          clear hi
          generalize decide (100 < n3) = z at *
          cases z with
          | true =>
            have Hf : Hid (LongP P = true) := hid_ (HL3.out.trans (hhi rfl))
            clear hhi hy
            go_wp2_with (go_at_call 50; (with_reducible refine HA.out.mono ?_); rintro e w2 ⟨rfl, rfl⟩)
            go_ret
            exact ⟨retB Hf.out, Hc1.out⟩
          | false =>
            have Hf := hid_ (hy rfl)
            clear hhi hy
            go_wp2_with (go_at_call 50; (with_reducible refine HA.out.mono ?_); rintro e w2 ⟨rfl, rfl⟩)
            go_round
            case rel => exact ⟨k + 1, by omega, by go_num, Hf.out⟩
            case measure => simp [intOf]; omega
        · obtain rfl : n2 = k := by omega
          have Hf : Hid (LongP P = false) := hid_ (HL3.out.trans (HNo.out Hall.out))
          go_wp2
          go_ret
          exact ⟨retB Hf.out, Hc1.out⟩
def exP : Par := ⟨[2, 2], [⟨[-1, -1], 0⟩, ⟨[1, -1], 1⟩, ⟨[-1, 1], 2⟩]⟩
theorem exP_ok : validP exP = 0 ∧ fillL exP = [0, 2, 1, -1] := by decide +kernel
set_option maxRecDepth 100000 in
set_option maxHeartbeats 4000000 in
theorem example_calls (w : World) :
    Calls Try.prog 51 #[] w fun e w' => ∃ v, e = .returned v ∧ ParAt w' v exP ∧ Below w.heap.size w w' := by
  go_enter Try.func51, Try.ntmps51
  go_wp2
  obtain ⟨u0, hu0⟩ : ∃ u0, w.alloc (.cells #[.slice (some ⟨w.heap.size + 1, 0, none⟩) 2 2, .slice (some ⟨w.heap.size + 1 + 1 + 1 + 1 + 1, 0, none⟩) 3 3] 25) = u0 := ⟨_, rfl⟩
  have z0 : u0.heap.size = w.heap.size + 1 := by rw [← hu0]; simp
  have b0 : Below w.heap.size w u0 := by rw [← hu0]; exact below_alloc _ _
  have p0 : u0.cell? ⟨w.heap.size, 0, none⟩ = some (.slice (some ⟨w.heap.size + 1, 0, none⟩) 2 2) := by rw [← hu0]; exact cells_alloc _ _ _ 0
  have p1 : u0.cell? ⟨w.heap.size, 1, none⟩ = some (.slice (some ⟨w.heap.size + 1 + 1 + 1 + 1 + 1, 0, none⟩) 3 3) := by rw [← hu0]; exact cells_alloc _ _ _ 1
  obtain ⟨u1, hu1⟩ : ∃ u1, u0.alloc (.cells #[.int .i64 2, .int .i64 2] 3) = u1 := ⟨_, rfl⟩
  have z1 : u1.heap.size = w.heap.size + 1 + 1 := by rw [← hu1, ← z0]; simp
  have b1 : Below u0.heap.size u0 u1 := by rw [← hu1]; exact below_alloc _ _
  have i1 : IntsAt u1 (some ⟨w.heap.size + 1, 0, none⟩) 2 2 [2, 2] := by rw [← z0, ← hu1]; exact ints_two u0 2 2 _
  obtain ⟨u2, hu2⟩ : ∃ u2, u1.alloc (.cells #[.int .i64 (-1), .int .i64 (-1)] 3) = u2 := ⟨_, rfl⟩
  have z2 : u2.heap.size = w.heap.size + 1 + 1 + 1 := by rw [← hu2, ← z1]; simp
  have b2 : Below u1.heap.size u1 u2 := by rw [← hu2]; exact below_alloc _ _
  have i2 : IntsAt u2 (some ⟨w.heap.size + 1 + 1, 0, none⟩) 2 2 [-1, -1] := by rw [← z1, ← hu2]; exact ints_two u1 (-1) (-1) _
  obtain ⟨u3, hu3⟩ : ∃ u3, u2.alloc (.cells #[.int .i64 1, .int .i64 (-1)] 3) = u3 := ⟨_, rfl⟩
  have z3 : u3.heap.size = w.heap.size + 1 + 1 + 1 + 1 := by rw [← hu3, ← z2]; simp
  have b3 : Below u2.heap.size u2 u3 := by rw [← hu3]; exact below_alloc _ _
  have i3 : IntsAt u3 (some ⟨w.heap.size + 1 + 1 + 1, 0, none⟩) 2 2 [1, -1] := by rw [← z2, ← hu3]; exact ints_two u2 1 (-1) _
  obtain ⟨u4, hu4⟩ : ∃ u4, u3.alloc (.cells #[.int .i64 (-1), .int .i64 1] 3) = u4 := ⟨_, rfl⟩
  have z4 : u4.heap.size = w.heap.size + 1 + 1 + 1 + 1 + 1 := by rw [← hu4, ← z3]; simp
  have b4 : Below u3.heap.size u3 u4 := by rw [← hu4]; exact below_alloc _ _
  have i4 : IntsAt u4 (some ⟨w.heap.size + 1 + 1 + 1 + 1, 0, none⟩) 2 2 [-1, 1] := by rw [← z3, ← hu4]; exact ints_two u3 (-1) 1 _
  obtain ⟨u5, hu5⟩ : ∃ u5, u4.alloc (.cells #[.slice (some ⟨w.heap.size + 1 + 1, 0, none⟩) 2 2, .int .i64 0, .slice (some ⟨w.heap.size + 1 + 1 + 1, 0, none⟩) 2 2, .int .i64 1, .slice (some ⟨w.heap.size + 1 + 1 + 1 + 1, 0, none⟩) 2 2, .int .i64 2] 39) = u5 := ⟨_, rfl⟩
  have b5 : Below u4.heap.size u4 u5 := by rw [← hu5]; exact below_alloc _ _
  have ce : ∀ i (v : Value), #[Value.slice (some ⟨w.heap.size + 1 + 1, 0, none⟩) 2 2, .int .i64 0, .slice (some ⟨w.heap.size + 1 + 1 + 1, 0, none⟩) 2 2, .int .i64 1, .slice (some ⟨w.heap.size + 1 + 1 + 1 + 1, 0, none⟩) 2 2, .int .i64 2][i]? = some v → u5.cell? ⟨w.heap.size + 1 + 1 + 1 + 1 + 1, i, none⟩ = some v := fun i v hv => by rw [← z4, ← hu5, cells_alloc]; exact hv
  have b14 := ((b2.trans (b3.mono b2.size)).trans (b4.mono (b2.trans (b3.mono b2.size)).size))
  have b15 := b14.trans (b5.mono b14.size)
  have b05 := b1.trans (b15.mono b1.size)
  have b35 := b4.trans (b5.mono b4.size)
  have b25 := b3.trans (b35.mono b3.size)
  rw [hu0, hu1, hu2, hu3, hu4, hu5]
  have P0 := cell_below p0 b05; have P1 := cell_below p1 b05
  have z5 : w.heap.size + 1 + 1 + 1 + 1 + 1 < u5.heap.size := by rw [← hu5, ← z4]; simp
  refine bodyPost_ret (v := .agg #[.slice (some ⟨w.heap.size + 1, 0, none⟩) 2 2, .slice (some ⟨w.heap.size + 1 + 1 + 1 + 1 + 1, 0, none⟩) 3 3]) ?_ rfl ⟨_, rfl, ⟨_, _, _, _, _, _, rfl, i1.below b15 (Nat.le_refl _), ⟨rfl, Nat.le_refl _, by omega, fun i hi => ?_⟩⟩, b0.trans (b05.mono b0.size)⟩
  · simp [results, Try.results51, go_sem, P0, P1]
  · rcases (show i = 0 ∨ i = 1 ∨ i = 2 by omega) with rfl | rfl | rfl
    · exact ⟨_, 0, _, _, _, rfl, z5, ce 0 _ rfl, ce 1 _ rfl, i2.below b25 (Nat.le_refl _)⟩
    · exact ⟨_, 0, _, _, _, rfl, z5, ce 2 _ rfl, ce 3 _ rfl, i3.below b35 (Nat.le_refl _)⟩
    · exact ⟨_, 0, _, _, _, rfl, z5, ce 4 _ rfl, ce 5 _ rfl, i4.below b5 (Nat.le_refl _)⟩
theorem ints_four (w : World) (x y z u : Int) (E : TypeId) : IntsAt (w.alloc (.cells #[.int .i64 x, .int .i64 y, .int .i64 z, .int .i64 u] E)) (some ⟨w.heap.size, 0, none⟩) 4 4 [x, y, z, u] :=
  ⟨rfl, Nat.le_refl _, by omega, fun i hi => ⟨w.heap.size, 0, rfl, by simp, by
    rcases (show i = 0 ∨ i = 1 ∨ i = 2 ∨ i = 3 by omega) with rfl | rfl | rfl | rfl
    · exact cells_alloc _ _ _ 0
    · exact cells_alloc _ _ _ 1
    · exact cells_alloc _ _ _ 2
    · exact cells_alloc _ _ _ 3⟩⟩
set_option maxRecDepth 100000 in
set_option maxHeartbeats 4000000 in
theorem known_calls (w : World) :
    Calls Try.prog 9 #[] w fun e w' => e = .returned (.bool true) ∧ Below w.heap.size w w' := by
  have HX := hid_ (example_calls w)
  have HF := hid_ (fun v W (h : ParAt W v exP) => ceFill_calls v exP W h)
  have hr : resFill exP = [0, 2, 1, -1] := by rw [resFill, if_pos exP_ok.1, exP_ok.2]
  rw [exP_ok.1, hr] at HF
  clear hr
  go_enter Try.func9, Try.ntmps9
  go_wp2_with (first
    | (go_at_call 51; (with_reducible refine HX.out.mono ?_); rintro e w2 ⟨v2, rfl, hp, hb2⟩)
    | (go_at_call 30; (with_reducible refine (HF.out _ _ hp).mono ?_); rintro e w3 ⟨v3, rfl, hm3⟩; obtain ⟨a5, c5, rfl, hi5⟩ := hm3.at_; have HS := hid_ (fun T => same_calls a5 4 c5 [0, 2, 1, -1] _ 4 4 [0, 2, 1, -1] (w3.alloc (.cells #[.int .i64 0, .int .i64 2, .int .i64 1, .int .i64 (-1)] T)) (hi5.below (below_alloc _ _) (Nat.le_refl _)) (ints_four w3 0 2 1 (-1) T)); rw [show Same [0, 2, 1, -1] [0, 2, 1, -1] = true from by decide] at HS)
    | (go_at_call 15; (with_reducible refine (HS.out _).mono ?_); rintro e w5 ⟨rfl, q, rfl⟩))
  go_ret
  exact ⟨rfl, (hb2.trans (hm3.bel.mono hb2.size)).trans ((below_drewN (below_alloc _ _) _).mono (hb2.trans (hm3.bel.mono hb2.size)).size)⟩
end Go.Proofs.Ytdnlpikfibdjoaa
