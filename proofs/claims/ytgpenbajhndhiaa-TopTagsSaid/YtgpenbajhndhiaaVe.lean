import Derived.Test.YtgpenbajhndhiaaVd
namespace Go.Proofs.Ytgpenbajhndhiaa
open Go.RowKit Go.Proofs.Kv Go

/-! ### equality of lists, either way -/
theorem ext8 {l l' : List Int} {n : Nat} (h : l.length = n) (h' : l'.length = n) (hh : ∀ j, j < n → l.getD j 0 = l'.getD j 0) : l = l' := by
  apply List.ext_getElem (by omega)
  intro i h1 h2
  have := hh i (by omega)
  simpa [List.getD, h1, h2] using this
set_option maxRecDepth 100000 in
set_option maxHeartbeats 2000000 in
theorem equal8_calls (a : Option Addr) (n c : Nat) (l : List Int) (a' : Option Addr) (n' c' : Nat) (l' : List Int) (w : World) (h : IntsAt w a n c l) (h' : IntsAt w a' n' c' l') :
    Calls Try.prog 37 #[.slice a n c, .slice a' n' c'] w fun e w' => e = .returned (.bool (decide (l = l'))) ∧ ∃ q, w' = w.drewN q := by
  have hn : n ≤ 9223372036854775807 := Nat.le_trans h.le h.small
  by_cases hnn : n = n'
  · subst hnn
    have hb1 : ((n : Int) != (n : Int)) = false := by simp
    go_enter Try.func37, Try.ntmps37
    go_wp2
    go_loopw [13] (fun i wr => ∃ k q : Nat, k ≤ n ∧ i = .int .i64 k ∧ wr = w.drewN q ∧ ∀ j, j < k → l.getD j 0 = l'.getD j 0) (fun i _ => n - (intOf i).toNat)
    case atStart => exact ⟨0, 0, Nat.zero_le _, rfl, rfl, fun _ h => absurd h (by omega)⟩
    case round =>
      obtain ⟨k, q, hk, rfl, rfl, hall⟩ := hrel
      have Hall := hid_ hall; clear hall
      by_cases hlt : k < n
      · obtain ⟨b, off, rfl, hb, hcell⟩ := h.cells k hlt
        obtain ⟨b', off', rfl, hb', hcell'⟩ := h'.cells k hlt
        generalize hy : l.getD k 0 = y at hcell
        have Hy := hid_ hy; clear hy
        generalize hy' : l'.getD k 0 = y' at hcell'
        have Hy' := hid_ hy'; clear hy'
        by_cases he : y = y'
        · have hq : (y != y') = false := by simpa using he
          have He := hid_ he; clear he
          go_wp2_with fail
          go_quiet (fail)
          go_wp2
          go_roundw
          case rel => exact ⟨k + 1, _, by omega, by go_num, rfl, fun j hj => by by_cases e : j = k; subst e; rw [Hy.out, Hy'.out]; exact He.out; exact Hall.out j (by omega)⟩
          case measure => simp [intOf]; omega
        · have hq : (y != y') = true := by simpa using he
          have Hf : Hid (decide (l = l') = false) := by
            refine hid_ (decide_eq_false fun e => he ?_)
            rw [← Hy.out, ← Hy'.out, e]
          have He := hid_ he; clear he
          go_wp2_with fail
          go_quiet (fail)
          go_wp2
          go_ret
          exact ⟨by rw [Hf.out]; rfl, _, drewN2 _ _ _⟩
      · have Hf : Hid (decide (l = l') = true) := hid_ (decide_eq_true (ext8 h.len h'.len fun j hj => Hall.out j (by omega)))
        go_wp2
        go_ret
        exact ⟨by rw [Hf.out]; rfl, _, rfl⟩
  · have hb1 : ((n : Int) != (n' : Int)) = true := by simp; omega
    have Hf : Hid (decide (l = l') = false) := hid_ (decide_eq_false fun e => hnn (by rw [← h.len, ← h'.len, e]))
    have Hn := hid_ hnn; clear hnn
    go_enter Try.func37, Try.ntmps37
    go_wp2
    go_ret
    exact ⟨by rw [Hf.out]; rfl, 0, rfl⟩
set_option maxRecDepth 100000 in
set_option maxHeartbeats 2000000 in
theorem sameI8_calls (a : Option Addr) (n c : Nat) (l : List Int) (a' : Option Addr) (n' c' : Nat) (l' : List Int) (w : World) (h : IntsAt w a n c l) (h' : IntsAt w a' n' c' l') :
    Calls Try.prog 21 #[.slice a n c, .slice a' n' c'] w fun e w' => e = .returned (.bool (decide (l = l'))) ∧ ∃ q, w' = w.drewN q := by
  have hn : n ≤ 9223372036854775807 := Nat.le_trans h.le h.small
  by_cases hnn : n = n'
  · subst hnn
    have hb1 : ((n : Int) != (n : Int)) = false := by simp
    go_enter Try.func21, Try.ntmps21
    go_wp2
    go_loopw [5] (fun i wr => ∃ k q : Nat, k ≤ n ∧ i = .int .i64 k ∧ wr = w.drewN q ∧ ∀ j, j < k → l.getD j 0 = l'.getD j 0) (fun i _ => n - (intOf i).toNat)
    case atStart => exact ⟨0, 0, Nat.zero_le _, rfl, rfl, fun _ h => absurd h (by omega)⟩
    case round =>
      obtain ⟨k, q, hk, rfl, rfl, hall⟩ := hrel
      have Hall := hid_ hall; clear hall
      by_cases hlt : k < n
      · obtain ⟨b, off, rfl, hb, hcell⟩ := h.cells k hlt
        obtain ⟨b', off', rfl, hb', hcell'⟩ := h'.cells k hlt
        generalize hy : l.getD k 0 = y at hcell
        have Hy := hid_ hy; clear hy
        generalize hy' : l'.getD k 0 = y' at hcell'
        have Hy' := hid_ hy'; clear hy'
        by_cases he : y = y'
        · have hq : (y != y') = false := by simpa using he
          have He := hid_ he; clear he
          go_wp2_with fail
          go_quiet (fail)
          go_wp2
          go_roundw
          case rel => exact ⟨k + 1, _, by omega, by go_num, rfl, fun j hj => by by_cases e : j = k; subst e; rw [Hy.out, Hy'.out]; exact He.out; exact Hall.out j (by omega)⟩
          case measure => simp [intOf]; omega
        · have hq : (y != y') = true := by simpa using he
          have Hf : Hid (decide (l = l') = false) := by
            refine hid_ (decide_eq_false fun e => he ?_)
            rw [← Hy.out, ← Hy'.out, e]
          have He := hid_ he; clear he
          go_wp2_with fail
          go_quiet (fail)
          go_wp2
          go_ret
          exact ⟨by rw [Hf.out]; rfl, _, drewN2 _ _ _⟩
      · have Hf : Hid (decide (l = l') = true) := hid_ (decide_eq_true (ext8 h.len h'.len fun j hj => Hall.out j (by omega)))
        go_wp2
        go_ret
        exact ⟨by rw [Hf.out]; rfl, _, rfl⟩
  · have hb1 : ((n : Int) != (n' : Int)) = true := by simp; omega
    have Hf : Hid (decide (l = l') = false) := hid_ (decide_eq_false fun e => hnn (by rw [← h.len, ← h'.len, e]))
    have Hn := hid_ hnn; clear hnn
    go_enter Try.func21, Try.ntmps21
    go_wp2
    go_ret
    exact ⟨by rw [Hf.out]; rfl, 0, rfl⟩
theorem extL8 {L M : List (List Int)} {n : Nat} (h : L.length = n) (h' : M.length = n) (hh : ∀ j, j < n → L.getD j [] = M.getD j []) : L = M := by
  apply List.ext_getElem (by omega)
  intro i h1 h2
  have := hh i (by omega)
  simpa [List.getD, h1, h2] using this
set_option maxRecDepth 100000 in
set_option maxHeartbeats 2000000 in
theorem sameL8_calls (a : Option Addr) (n c : Nat) (L : List (List Int)) (a' : Option Addr) (n' c' : Nat) (M : List (List Int)) (w : World) (h : ListsAt w a n c L) (h' : ListsAt w a' n' c' M) :
    Calls Try.prog 16 #[.slice a n c, .slice a' n' c'] w fun e w' => e = .returned (.bool (decide (L = M))) ∧ ∃ q, w' = w.drewN q := by
  have hn : n ≤ 9223372036854775807 := Nat.le_trans h.le h.small
  by_cases hnn : n = n'
  · subst hnn
    have hb1 : ((n : Int) != (n : Int)) = false := by simp
    have HL := hid_ h; have HM := hid_ h'
    clear h h'
    go_enter Try.func16, Try.ntmps16
    go_wp2
    go_loopw [5] (fun i wr => ∃ k q : Nat, k ≤ n ∧ i = .int .i64 k ∧ wr = w.drewN q ∧ ∀ j, j < k → L.getD j [] = M.getD j []) (fun i _ => n - (intOf i).toNat)
    case atStart => exact ⟨0, 0, Nat.zero_le _, rfl, rfl, fun _ h => absurd h (by omega)⟩
    case round =>
      obtain ⟨k, q, hk, rfl, hq, hall⟩ := hrel
      have Hall := hid_ hall; clear hall
      by_cases hlt : k < n
      · have HLr := HL.out.drewN q; have HMr := HM.out.drewN q
        rw [← hq] at HLr HMr
        obtain ⟨b, off, a1, n1, c1, rfl, hb, hcell, hrow⟩ := HLr.cells k hlt
        obtain ⟨b', off', a2, n2, c2, rfl, hb', hcell', hrow'⟩ := HMr.cells k hlt
        have HE := hid_ (fun q2 => sameI8_calls a1 n1 c1 (L.getD k []) a2 n2 c2 (M.getD k []) (wr.drewN q2) (hrow.drewN q2) (hrow'.drewN q2))
        have Hq := hid_ hq
        clear hrow hrow' HLr HMr hq
        by_cases he : L.getD k [] = M.getD k []
        · rw [decide_eq_true he] at HE
          have Hf := hid_ (lt_snoc (p := fun j => L.getD j [] = M.getD j []) Hall.out he)
          clear he
          go_wp2_with fail
          go_quiet ((go_at_call 21; exact quiet_more (HE.out _)))
          go_wp2
          go_roundw
          case rel => exact ⟨k + 1, _, by omega, by go_num, by rw [Hq.out, drewN2], Hf.out⟩
          case measure => simp [intOf]; omega
        · rw [decide_eq_false he] at HE
          have Hf : Hid (decide (L = M) = false) := hid_ (decide_eq_false fun e => he (by rw [e]))
          clear he
          go_wp2_with fail
          go_quiet ((go_at_call 21; exact quiet_more (HE.out _)))
          go_wp2
          go_ret
          exact ⟨by rw [Hf.out]; rfl, _, by rw [Hq.out, drewN2]⟩
      · have Hf : Hid (decide (L = M) = true) := hid_ (decide_eq_true (extL8 HL.out.len HM.out.len fun j hj => Hall.out j (by omega)))
        go_wp2
        go_ret
        exact ⟨by rw [Hf.out]; rfl, _, rfl⟩
  · have hb1 : ((n : Int) != (n' : Int)) = true := by simp; omega
    have Hf : Hid (decide (L = M) = false) := hid_ (decide_eq_false fun e => hnn (by rw [← h.len, ← h'.len, e]))
    have Hn := hid_ hnn; clear hnn
    go_enter Try.func16, Try.ntmps16
    go_wp2
    go_ret
    exact ⟨by rw [Hf.out]; rfl, 0, rfl⟩
/-! ### what follows what -/
def follV (L : Lx) (k j : Nat) : Int := (L.follow.getD (L.items.getD k I0).kind.toNat []).getD (L.items.getD j I0).kind.toNat 0
theorem follV_in {L : Lx} (g : GoodL L) {k j : Nat} (hk : k < L.items.length) (hj : j < L.items.length) : -1 ≤ follV L k j ∧ follV L k j ≤ 99 := by
  obtain ⟨k0, k3⟩ := g.kind k hk
  obtain ⟨j0, j3⟩ := g.kind j hj
  obtain ⟨h1, h2⟩ := g.row (L.items.getD k I0).kind.toNat (by omega)
  exact areB_at h2 (k := (L.items.getD j I0).kind.toNat) (by omega)
set_option maxRecDepth 100000 in
set_option maxHeartbeats 2000000 in
theorem tafollow_calls (v : Value) (L : Lx) (k j : Nat) (w : World) (h : LexAt w v L) (g : GoodL L) (hk : k < L.items.length) (hj : j < L.items.length) :
    Calls Try.prog 61 #[v, .int .i64 (k : Int), .int .i64 (j : Int)] w fun e w' => e = .returned (.int .i64 (follV L k j)) ∧ Below w.heap.size w w' := by
  have HP := hid_ h
  obtain ⟨a1, n1, c1, a2, n2, c2, rfl, h1, h2⟩ := h
  obtain ⟨w1, hw1⟩ : ∃ w1, w.alloc (.cells #[.slice a1 n1 c1, .slice a2 n2 c2] 25) = w1 := ⟨_, rfl⟩
  have cb : Below w.heap.size w w1 := by rw [← hw1]; exact below_alloc _ _
  have q0 : w1.cell? ⟨w.heap.size, 0, none⟩ = some (.slice a1 n1 c1) := by rw [← hw1]; exact cells_alloc _ _ _ 0
  have q1 : w1.cell? ⟨w.heap.size, 1, none⟩ = some (.slice a2 n2 c2) := by rw [← hw1]; exact cells_alloc _ _ _ 1
  have HP1 := hid_ (HP.out.below cb (Nat.le_refl _)); have Hc1 := hid_ cb
  obtain ⟨b, off, ak, nk, ck, e1, -, k0, k1, k2, -⟩ := (h1.below cb (Nat.le_refl _)).cells k (by rw [← h1.len]; exact hk)
  obtain ⟨b', off', aj, nj, cj, e2, -, j0, j1, j2, -⟩ := (h1.below cb (Nat.le_refl _)).cells j (by rw [← h1.len]; exact hj)
  subst e1
  injection e2 with e2; injection e2 with e2 e3; subst e2; subst e3
  obtain ⟨kk0, kk3⟩ := g.kind k hk
  obtain ⟨kj0, kj3⟩ := g.kind j hj
  obtain ⟨x, hx⟩ : ∃ x : Nat, (L.items.getD k I0).kind = x := ⟨(L.items.getD k I0).kind.toNat, by omega⟩
  obtain ⟨y, hy⟩ : ∃ y : Nat, (L.items.getD j I0).kind = y := ⟨(L.items.getD j I0).kind.toNat, by omega⟩
  have HR : Hid (follV L k j = (L.follow.getD x []).getD y 0) := hid_ (by rw [follV, hx, hy]; rfl)
  rw [hx] at k1
  rw [hy] at j1
  have hn2 : n2 = 4 := by rw [← h2.len]; exact g.rows
  subst hn2
  obtain ⟨bf, offf, ar, nr, cr, rfl, -, f0, hrow⟩ := (h2.below cb (Nat.le_refl _)).cells x (by omega)
  have hnr : nr = 4 := by rw [← hrow.len]; exact (g.row x (by omega)).1
  subst hnr
  obtain ⟨br, offr, rfl, -, r0⟩ := hrow.cells y (by omega)
  have hk1 : k < n1 := by rw [← h1.len]; exact hk
  have hj1 : j < n1 := by rw [← h1.len]; exact hj
  have hx4 : x < 4 := by omega
  have hy4 : y < 4 := by omega
  generalize (L.follow.getD x []).getD y 0 = r at *
  clear cb h1 h2 HP HP1 g hrow kk0 kk3 kj0 kj3 hx hy hk hj
  go_enter Try.func61, Try.ntmps61
  go_wp2_with fail
  go_quiet (fail)
  go_wp2
  go_ret
  exact ⟨by rw [HR.out]; rfl, Hc1.out.trans ((below_drewN (Below.refl _ _) _).mono Hc1.out.size)⟩
set_option maxRecDepth 100000 in
set_option maxHeartbeats 2000000 in
theorem r8follow_calls (v : Value) (L : Lx) (k j : Nat) (w : World) (h : LexAt w v L) (g : GoodL L) (hk : k < L.items.length) (hj : j < L.items.length) :
    Calls Try.prog 34 #[v, .int .i64 (k : Int), .int .i64 (j : Int)] w fun e w' => e = .returned (.int .i64 (follV L k j)) ∧ Below w.heap.size w w' := by
  have HP := hid_ h
  obtain ⟨a1, n1, c1, a2, n2, c2, rfl, h1, h2⟩ := h
  obtain ⟨w1, hw1⟩ : ∃ w1, w.alloc (.cells #[.slice a1 n1 c1, .slice a2 n2 c2] 25) = w1 := ⟨_, rfl⟩
  have cb : Below w.heap.size w w1 := by rw [← hw1]; exact below_alloc _ _
  have q0 : w1.cell? ⟨w.heap.size, 0, none⟩ = some (.slice a1 n1 c1) := by rw [← hw1]; exact cells_alloc _ _ _ 0
  have q1 : w1.cell? ⟨w.heap.size, 1, none⟩ = some (.slice a2 n2 c2) := by rw [← hw1]; exact cells_alloc _ _ _ 1
  have HP1 := hid_ (HP.out.below cb (Nat.le_refl _)); have Hc1 := hid_ cb
  obtain ⟨b, off, ak, nk, ck, e1, -, k0, k1, k2, -⟩ := (h1.below cb (Nat.le_refl _)).cells k (by rw [← h1.len]; exact hk)
  obtain ⟨b', off', aj, nj, cj, e2, -, j0, j1, j2, -⟩ := (h1.below cb (Nat.le_refl _)).cells j (by rw [← h1.len]; exact hj)
  subst e1
  injection e2 with e2; injection e2 with e2 e3; subst e2; subst e3
  obtain ⟨kk0, kk3⟩ := g.kind k hk
  obtain ⟨kj0, kj3⟩ := g.kind j hj
  obtain ⟨x, hx⟩ : ∃ x : Nat, (L.items.getD k I0).kind = x := ⟨(L.items.getD k I0).kind.toNat, by omega⟩
  obtain ⟨y, hy⟩ : ∃ y : Nat, (L.items.getD j I0).kind = y := ⟨(L.items.getD j I0).kind.toNat, by omega⟩
  have HR : Hid (follV L k j = (L.follow.getD x []).getD y 0) := hid_ (by rw [follV, hx, hy]; rfl)
  rw [hx] at k1
  rw [hy] at j1
  have hn2 : n2 = 4 := by rw [← h2.len]; exact g.rows
  subst hn2
  obtain ⟨bf, offf, ar, nr, cr, rfl, -, f0, hrow⟩ := (h2.below cb (Nat.le_refl _)).cells x (by omega)
  have hnr : nr = 4 := by rw [← hrow.len]; exact (g.row x (by omega)).1
  subst hnr
  obtain ⟨br, offr, rfl, -, r0⟩ := hrow.cells y (by omega)
  have hk1 : k < n1 := by rw [← h1.len]; exact hk
  have hj1 : j < n1 := by rw [← h1.len]; exact hj
  have hx4 : x < 4 := by omega
  have hy4 : y < 4 := by omega
  generalize (L.follow.getD x []).getD y 0 = r at *
  clear cb h1 h2 HP HP1 g hrow kk0 kk3 kj0 kj3 hx hy hk hj
  go_enter Try.func34, Try.ntmps34
  go_wp2_with fail
  go_quiet (fail)
  go_wp2
  go_ret
  exact ⟨by rw [HR.out]; rfl, Hc1.out.trans ((below_drewN (Below.refl _ _) _).mono Hc1.out.size)⟩
set_option maxRecDepth 100000 in
set_option maxHeartbeats 4000000 in
theorem r8words_calls (v : Value) (L : Lx) (a : Option Addr) (n c : Nat) (l : List Int) (w : World) (h : LexAt w v L) (ht : IntsAt w a n c l) (g : GoodL L) (hi : itemsB L l = true) (hs : n ≤ 1000) :
    Calls Try.prog 33 #[v, .slice a n c] w fun e w' => ∃ v, e = .returned v ∧ Made 3 w w' v (wordsL L l) := by
  have HP := hid_ h
  obtain ⟨a1, n1, c1, a2, n2, c2, rfl, h1, h2⟩ := h
  obtain ⟨w1, hw1⟩ : ∃ w1, w.alloc (.cells #[.slice a1 n1 c1, .slice a2 n2 c2] 25) = w1 := ⟨_, rfl⟩
  have cb : Below w.heap.size w w1 := by rw [← hw1]; exact below_alloc _ _
  have q0 : w1.cell? ⟨w.heap.size, 0, none⟩ = some (.slice a1 n1 c1) := by rw [← hw1]; exact cells_alloc _ _ _ 0
  have q1 : w1.cell? ⟨w.heap.size, 1, none⟩ = some (.slice a2 n2 c2) := by rw [← hw1]; exact cells_alloc _ _ _ 1
  have HP1 := hid_ (HP.out.below cb (Nat.le_refl _)); have Hc1 := hid_ cb
  obtain ⟨i0, hi0, hz0, hz1, hz2⟩ := info_parts Try.infoInt
  have hl1 := h1.len
  have HT := hid_ (fun W (hW : Below w1.heap.size w1 W) => (ht.below cb (Nat.le_refl _)).below hW (Nat.le_refl _))
  have H1 := hid_ (fun W (hW : Below w1.heap.size w1 W) => (h1.below cb (Nat.le_refl _)).below hW (Nat.le_refl _))
  have HAt := hid_ (fun k (hk : k < n) => @itemsB_at L l hi k (by rw [ht.len]; exact hk))
  have HTk := hid_ (fun k (hk : k < n) => @wordsL_take L l k (by rw [ht.len]; exact hk))
  have HLe := hid_ (fun k (hk : k ≤ n) => wordsL_le g hi k (by rw [ht.len]; exact hk))
  have HW6 := hid_ (fun j (hj : j < n1) => (g.word j (by omega)).2.1)
  have HAll : Hid (wordsL L (l.take n) = wordsL L l) := hid_ (by rw [List.take_of_length_le (by rw [ht.len]; exact Nat.le_refl _)])
  rw [hl1] at HAt
  have hn1 : n1 ≤ 9223372036854775807 := Nat.le_trans h1.le h1.small
  have hn : n ≤ 9223372036854775807 := by omega
  clear cb h1 h2 HP HP1 ht g hi hl1
  go_enter Try.func33, Try.ntmps33
  go_wp2
  go_loopw [5, 6] (fun v i wr => ∃ k : Nat, k ≤ n ∧ i = .int .i64 k ∧ wr.ownsRow w1.heap.size 3 1 v (wordsL L (l.take k)).length ((wordsL L (l.take k)).map (Value.int .i64)) ∧ Below w1.heap.size w1 wr) (fun _ i _ => n - (intOf i).toNat)
  case atStart => exact ⟨0, Nat.zero_le _, rfl, World.ownsRow_nil _ _ _ _, Below.refl _ _⟩
  case round =>
    obtain ⟨k, hk, rfl, hown, hbr⟩ := hrel
    have hsz := hbr.size
    have q0r := cell_below q0 hbr
    by_cases hlt : k < n
    · obtain ⟨b, off, rfl, -, hcell⟩ := (HT.out wr hbr).cells k hlt
      obtain ⟨j, hj, hjn⟩ := HAt.out k hlt
      rw [hj] at hcell
      obtain ⟨b2, off2, a3, n3, c3, rfl, -, k0, k1, k2, hw⟩ := (H1.out wr hbr).cells j hjn
      have h6 := HW6.out j hjn
      rw [hw.len] at h6
      have htk := HTk.out k hlt
      rw [hj, wordL, Int.toNat_natCast] at htk
      have hle := HLe.out k hk
      have Htk := hid_ htk
      have Hlw := hid_ hw.len
      have Hw := hid_ hw
      generalize (L.items.getD j I0).word = y at *
      generalize wordsL L (l.take k) = X at *
      have Hown := hid_ hown; have Hbr := hid_ hbr
      obtain ⟨lx, hlx⟩ : ∃ lx, X.length = lx := ⟨_, rfl⟩
      have Hlx := hid_ hlx
      rw [hlx] at hle Hown
      have gA := cell_regrown q0r; have gB := cell_regrown hcell; have gC := cell_regrown k0
      clear hown hbr htk hw hlx hj
      go_wp2_with fail
      refine wp_region_tail 10 (by kernel_rfl) (by kernel_rfl) ?_
      simp only [List.take_succ_cons, List.take_zero, List.drop_succ_cons, List.drop_zero]
      repeat (first | go_big_quiet_skip | (go_big_quiet_want; go_big_quiet_op; first | go_big_quiet_on | go_big_quiet_call (fail)))
      refine wpQuiet_nil ?_
      rintro wq ⟨pq, hpq⟩
      have hbq := below_wq hpq
      have Hownq := hid_ (own_grown Hown.out hbq)
      have Hbq := hid_ (Hbr.out.trans (hbq.mono hsz))
      have Hwq := hid_ (Hw.out.below hbq (Nat.le_refl _))
      have hzq := Hbq.out.size
      clear hpq hbq gA gB gC
      go_wp2_with (at_builtin; refine wpList_append_ints _ rfl (.tmp 13) (.tmp 22) _ rfl w1.heap.size 3 i0 Try.underlying26 hi0 hz0 hz1 hz2 _ _ _ rfl Hownq.out _ _ _ _ rfl Hwq.out (by omega) hzq ?_; intro v2 w2 hown2 hg2 hat2; have Hown2 := hid_ hown2; have Hb2 := hid_ (below_app0 Hbq.out hzq Hownq.out hg2); clear hown2 hg2 hat2)
      go_roundw
      case rel => exact ⟨k + 1, by omega, by go_num, by rw [Htk.out, List.length_append, Hlx.out, Hlw.out]; exact Hown2.out, Hb2.out⟩
      case measure => simp [intOf]; omega
    · obtain rfl : n = k := by omega
      rw [HAll.out] at hown
      have Hown := hid_ hown
      clear hown
      go_wp2
      go_ret
      exact ⟨_, rfl, own_base Hown.out Hc1.out.size, Hc1.out.trans (hbr.mono Hc1.out.size)⟩
end Go.Proofs.Ytgpenbajhndhiaa
