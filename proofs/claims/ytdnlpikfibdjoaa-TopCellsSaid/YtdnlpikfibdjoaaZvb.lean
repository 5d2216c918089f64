import Derived.Test.YtdnlpikfibdjoaaZva
import Derived.Test.YtdnlpikfibdjoaaZr
import Derived.Test.YtdnlpikfibdjoaaZ0
import Derived.Laws.OwnMore
namespace Go.Proofs.Ytdnlpikfibdjoaa
open Go.RowKit Go.Proofs.Kv
attribute [local go_sem] Oper.semAt_some

/-! ### the next cell -/
theorem ints_grown {w w' : World} {g : Nat} {a : Option Addr} {n c : Nat} {l : List Int} (hg : w.grownBy w' (some g)) (h : IntsAt w a n c l) (hd : ∀ b off, 0 < n → a = some ⟨b, off, none⟩ → b ≠ g) : IntsAt w' a n c l :=
  ⟨h.len, h.le, h.small, fun i hi => by
    obtain ⟨b, off, ha, hb, hc⟩ := h.cells i hi
    exact ⟨b, off, ha, Nat.lt_of_lt_of_le hb hg.size, hg.cell (a := ⟨b, off + i, none⟩) hc (fun e => hd b off (by omega) ha (Option.some.inj e))⟩⟩
set_option maxRecDepth 100000 in
set_option maxHeartbeats 2000000 in
theorem advance_calls (B : Nat) (sa : Option Addr) (n cs : Nat) (sizes c0 : List Int) (w : World) (hs : IntsAt w sa n cs sizes) (hd : ∀ b off, 0 < n → sa = some ⟨b, off, none⟩ → b ≠ B) (hR : RowL w B c0) (hl : c0.length = n) (hn : n ≤ 1000)
    (hb : ∀ j, j < n → (2 ≤ sizes.getD j 0 ∧ sizes.getD j 0 ≤ 3) ∧ 0 ≤ c0.getD j 0 ∧ c0.getD j 0 ≤ 2) :
    Calls Try.prog 119 #[.slice (some ⟨B, 0, none⟩) n n, .slice sa n cs] w fun e w' => w.grownBy w' (some B) ∧
      ((e = .returned (.bool false) ∧ advC sizes n c0 = none) ∨ ∃ c', e = .returned (.bool true) ∧ advC sizes n c0 = some c' ∧ RowL w' B c') := by
  have HS := hid_ (fun W (hW : w.grownBy W (some B)) => ints_grown hW hs hd)
  have HB := hid_ hb
  have HA : Hid (∀ m c, advC sizes (m + 1) c = if c.getD m 0 < sizes.getD m 0 - 1 then some (c.set m (c.getD m 0 + 1)) else advC sizes m (c.set m 0)) := hid_ (fun m c => rfl)
  have HA0 : Hid (∀ c, advC sizes 0 c = none) := hid_ (fun c => rfl)
  clear hs hd hb
  have Hl := hid_ hl; have HR := hid_ hR
  clear hl hR
  go_enter Try.func119, Try.ntmps119
  go_wp2
  go_loopw [5] (fun i wr => ∃ (m : Nat) (c : List Int), m ≤ n ∧ i = .int .i64 ((m : Int) - 1) ∧ RowL wr B c ∧ c.length = n ∧ advC sizes n c0 = advC sizes m c ∧ (∀ j, j < m → c.getD j 0 = c0.getD j 0) ∧ w.grownBy wr (some B)) (fun i _ => ((intOf i) + 1).toNat)
  case atStart => exact ⟨n, c0, Nat.le_refl _, by congr 1, HR.out, Hl.out, rfl, fun _ _ => rfl, grown_refl _ _⟩
  case round =>
    obtain ⟨m, c, hmn, rfl, hR, hcl, hadv, hsame, hg⟩ := hrel
    cases m with
    | zero =>
      have Hf := hid_ (hadv.trans (HA0.out c))
      have hd : decide ((0 : Int) ≤ ((0 : Nat) : Int) - 1) = false := by simp
      clear hadv
      go_wp2
      go_ret
      exact ⟨hg, .inl ⟨rfl, Hf.out⟩⟩
    | succ m =>
      obtain ⟨bs, offs, rfl, -, hcs⟩ := (HS.out wr hg).cells m (by omega)
      have hc : wr.cell? ⟨B, m, none⟩ = some (.int .i64 (c.getD m 0)) := World.rowIs.cell hR (by omega)
      have hf : wr.frozen? ⟨B, m, none⟩ = false := World.rowIs.frozen hR m
      obtain ⟨⟨y2, y3⟩, x0, x2⟩ := HB.out m (by omega)
      rw [← hsame m (by omega)] at x0 x2
      have hst := HA.out m c
      have Hsame := hid_ (fun j (hj : j < m) => hsame j (by omega))
      have Hput := hid_ (fun x => RowL.put hR m x)
      have Hadv := hid_ hadv
      have Hg := hid_ hg
      have Hcl := hid_ hcl
      rw [show ((m + 1 : Nat) : Int) - 1 = (m : Int) by omega]
      have hmn' : (m : Int) < (n : Int) := by omega
      clear hR hadv hsame hg hcl
      generalize c.getD m 0 = x at *
      generalize sizes.getD m 0 = y at *
      have hwy : IntKind.i64.wrap (y - 1) = y - 1 := IntWalk.i64_in _ (by omega)
      by_cases hxy : x < y - 1
      · rw [if_pos hxy] at hst
        have Hst := hid_ hst
        clear hst
        go_wp2_with fail
        go_quiet (fail)
        clear hwy
        have hwx : IntKind.i64.wrap (x + 1) = x + 1 := IntWalk.i64_in _ (by omega)
        go_wp2
        go_ret
        exact ⟨grown_set (grown_drewN Hg.out _) _ _, .inr ⟨_, rfl, Hadv.out.trans Hst.out, Hput.out _⟩⟩
      · rw [if_neg hxy] at hst
        have Hst := hid_ hst
        clear hst
        go_wp2_with fail
        go_quiet (fail)
        clear hwy
        go_wp2
        go_roundw
        case rel =>
          refine ⟨m, c.set m 0, by omega, rfl, Hput.out 0, by simp [Hcl.out], Hadv.out.trans Hst.out, fun j hj => ?_, grown_set (grown_drewN Hg.out _) _ _⟩
          rw [← Hsame.out j hj]
          simp [List.getD, List.getElem?_set_ne (show m ≠ j by omega)]
        case measure => simp [intOf]
end Go.Proofs.Ytdnlpikfibdjoaa
namespace Go.Proofs.Ytdnlpikfibdjoaa
open Go.RowKit Go.Proofs.Kv Go
attribute [local go_sem] Oper.semAt_some

/-! ### the iterator of all cells -/
def YC (sizes : List Int) (B k : Nat) (A : World) (v : Value) : Prop := B < A.heap.size ∧ A.ownsRow (B + 1) 3 1 v sizes.length (((cellsL sizes).getD k []).map (Value.int .i64))
set_option maxRecDepth 100000 in
set_option maxHeartbeats 2000000 in
theorem cells_iter (P : Par) (sa : Option Addr) (n cs Bn : Nat) (hv : validP P = 0) (hn : P.sizes.length = n) (m : Nat) :
    SeqNew Fence.wide m Try.prog 118 #[.pointer (some ⟨Bn, 0, none⟩)] (YC P.sizes) (cellsL P.sizes).length (fun W => W.cell? ⟨Bn, 0, none⟩ = some (.slice sa n cs) ∧ IntsAt W sa n cs P.sizes) := by
  intro l J Jx W hG hJ hY h0
  obtain ⟨hbn, hS0⟩ := hG _ _ h0
  obtain ⟨hchain, hfirst, h27, -⟩ := cells_chain hv
  obtain ⟨hok, hnext, hlast, hpos⟩ := chainC_at hchain
  have hn3 : n ≤ 3 := by rw [← hn]; exact (validP_ok hv).1.2
  have Hd : Hid (∀ b off, 0 < n → sa = some ⟨b, off, none⟩ → b ≠ W.heap.size) := hid_ (fun b off h0 ha => by
    obtain ⟨b', off', ha', hb', -⟩ := hS0.cells 0 h0
    rw [ha] at ha'
    injection ha' with ha'; injection ha' with e1 e2
    omega)
  have HB : Hid (∀ k, k < (cellsL P.sizes).length → ∀ j, j < n → (2 ≤ P.sizes.getD j 0 ∧ P.sizes.getD j 0 ≤ 3) ∧ 0 ≤ ((cellsL P.sizes).getD k []).getD j 0 ∧ ((cellsL P.sizes).getD k []).getD j 0 ≤ 2) := hid_ (fun k hk j hj => by
    have := List.any_eq_false.1 (validP_ok hv).2.1 _ (getD_mem (show j < P.sizes.length by omega))
    simp [okSize, Within] at this
    have h1 : 2 ≤ P.sizes.getD j 0 ∧ P.sizes.getD j 0 ≤ 3 := this
    obtain ⟨h2, h3⟩ := specB_ok (hok k hk)
    have := h3 j (by omega)
    exact ⟨h1, this.1, by omega⟩)
  have HLe : Hid (∀ k, k < (cellsL P.sizes).length → ((cellsL P.sizes).getD k []).length = n) := hid_ (fun k hk => by rw [(specB_ok (hok k hk)).1, hn])
  have hmk : ∀ W' : World, (Instr.makeSlice 22 (.int .i64 (n : Int)) (.int .i64 (n : Int))).run Try.prog W' = .ok (.slice (some ⟨W'.heap.size, 0, none⟩) n n) (W'.alloc (.cells (madeCells #[.int .i64 0] n) 3)) := fun W' => by
    obtain ⟨i0, hi0, hz0, hz1, hz2⟩ := info_parts Try.infoInt
    have := run_make (P := Try.prog) W' 22 3 i0 (.int .i64 0) Try.underlying22 hi0 hz0 .i64 .i64 n n (by omega) (by omega) (by rw [hz2]; omega) (by omega)
    simpa [hz1, Value.cells] using this
  have Hnext : Hid (∀ k, k + 1 < (cellsL P.sizes).length → advC P.sizes n ((cellsL P.sizes).getD k []) = some ((cellsL P.sizes).getD (k + 1) [])) := hid_ (fun k hk => by rw [← hn]; exact hnext k hk)
  have Hlast : Hid (advC P.sizes n ((cellsL P.sizes).getD ((cellsL P.sizes).length - 1) []) = none) := hid_ (by rw [← hn]; exact hlast)
  have Hpos := hid_ hpos
  have HY : Hid (∀ k A v, J k A → k < (cellsL P.sizes).length → W.heap.size < A.heap.size → A.ownsRow (W.heap.size + 1) 3 1 v n (((cellsL P.sizes).getD k []).map (Value.int .i64)) → YieldAt Fence.wide (m - 1) Try.prog l #[v] A fun e A' =>
      (e = .returned (.bool true) ∧ J (k + 1) A' ∧ A.heap.size ≤ A'.heap.size ∧ A'.heap[W.heap.size]? = A.heap[W.heap.size]?) ∨ (e = .returned (.bool false) ∧ Jx (k + 1) A')) := hid_ (fun k A v hj hk hs ho => hY k A v hj hk ⟨hs, by rw [hn]; exact ho⟩)
  have HJ := hid_ hJ
  have HG := hid_ hG
  have HJ1 : Hid (J 0 (W.alloc (.cells (madeCells #[.int .i64 0] n) 3))) := hid_ (hJ 0 _ _ h0 (World.grownBy_alloc W _ _))
  have HR1 : Hid (RowL (W.alloc (.cells (madeCells #[.int .i64 0] n) 3)) W.heap.size ((cellsL P.sizes).getD 0 [])) := hid_ (by
    have h := World.rowIs_made W (.int .i64 0) n 3
    unfold RowL
    rw [hfirst, List.length_map, hn]
    refine h.congr fun i hi => ?_
    simp [List.getD, hn, hi])
  clear hY hJ hG hchain hfirst hok hnext hlast hpos
  generalize hN : (cellsL P.sizes).length = N at *
  generalize cellsL P.sizes = L at *
  clear hN h0
  refine callsIn_of_wp Try.func118 rfl trivial ?_ rfl
  simp only [Try.ntmps118, List.size_toArray, List.length_cons, List.length_nil, Nat.reduceAdd, Nat.reduceSub, Array.replicate_succ, Array.replicate_zero, List.push_toArray, List.append_toArray, List.nil_append, List.cons_append]
  gi_wp2
  gi_loopg [4] N (fun g b wr => ∃ j : Nat, j ≤ N ∧ g = N - j ∧ b = .bool (decide (j < N)) ∧ (j < N → RowL wr W.heap.size (L.getD j [])) ∧ J j wr)
  case atStart => exact ⟨0, Nat.zero_le _, by omega, by rw [decide_eq_true Hpos.out], fun _ => HR1.out, HJ1.out⟩
  case round =>
    obtain ⟨j, hj, hgk, rfl, hR, hJj⟩ := hrel
    have Hgk := hid_ hgk; clear hgk
    by_cases hlt : j < N
    · rw [decide_eq_true hlt]
      have HR := hid_ (hR hlt)
      have hlen := HLe.out j hlt
      have hI : IntsAt wr (some ⟨W.heap.size, 0, none⟩) n n (L.getD j []) := by
        have := RowL.ints HR.out (by rw [hlen]; omega)
        rwa [hlen] at this
      have HC := hid_ (clone_calls _ _ _ _ wr hI (by omega))
      have HWs : W.heap.size < wr.heap.size := World.rowIs.lt HR.out
      have HJj := hid_ hJj
      clear hR hJj hI
      gi_wp2
      refine ⟨trivial, fun h => absurd h (by simp [Fence.wide]), (callsIn_wide.2 HC.out).mono ?_⟩
      rintro e W1 ⟨v1, rfl, hm1⟩
      have hg1 := grown_of_below hm1.bel (some W.heap.size)
      have HJ1 := hid_ (HJ.out j _ _ HJj.out hg1)
      have hown1 := hm1.own
      rw [hlen] at hown1
      have hs1 : W.heap.size < W1.heap.size := Nat.lt_of_lt_of_le HWs hm1.bel.size
      obtain ⟨fn, tmps, assign, body, hy, hround⟩ := HY.out j W1 v1 HJ1.out hlt hs1 (own_base hown1 (by omega))
      have Hround := hid_ hround
      have HR2 : Hid (RowL W1 W.heap.size (L.getD j [])) := hid_ (World.rowIs.of_block HR.out (hm1.bel.block _ HWs))
      clear hround hm1 hown1 hg1
      gi_wp2
      refine ⟨fun h => absurd h (by simp [Fence.wide]), Hround.out.mono ?_⟩
      rintro e W3 (⟨rfl, hJ3, hs3, hB3⟩ | ⟨rfl, hJx3⟩)
      · have hRow : RowL W3 W.heap.size (L.getD j []) := World.rowIs.of_block HR2.out hB3
        obtain ⟨hb3, hS3⟩ := HG.out _ _ hJ3
        have Hadv := hid_ (advance_calls W.heap.size sa n cs P.sizes _ W3 hS3 Hd.out hRow hlen (by omega) (HB.out j hlt))
        have HJ3 := hid_ hJ3; clear hJ3 hs3 hB3 hRow hS3
        gi_wp2
        refine ⟨trivial, fun h => absurd h (by simp [Fence.wide]), (callsIn_wide.2 Hadv.out).mono ?_⟩
        rintro e W4 ⟨hg4, (⟨rfl, hn4⟩ | ⟨l', rfl, hs4, hR4⟩)⟩
        · have HJ4 := hid_ (HJ.out _ _ _ HJ3.out hg4)
          have HjN : Hid (j + 1 = N) := hid_ (by
            rcases Nat.lt_or_ge (j + 1) N with h | h
            · rw [Hnext.out j h] at hn4; cases hn4
            · omega)
          clear hn4 hg4
          gi_wp2
          gi_roundg (N - (j + 1))
          case rel => exact ⟨j + 1, by have := HjN.out; omega, rfl, by rw [decide_eq_false (by have := HjN.out; omega)], fun h => absurd h (by have := HjN.out; omega), HJ4.out⟩
          case measure => have := Hgk.out; omega
        · have HJ4 := hid_ (HJ.out _ _ _ HJ3.out hg4)
          have hjN : j + 1 < N := by
            rcases Nat.lt_or_ge (j + 1) N with h | h
            · exact h
            · have e : j = N - 1 := by omega
              rw [e, Hlast.out] at hs4; cases hs4
          have HR5 : Hid (RowL W4 W.heap.size (L.getD (j + 1) [])) := hid_ (by
            rw [Hnext.out j hjN] at hs4
            injection hs4 with hs4
            rw [hs4]; exact hR4)
          clear hs4 hR4 hg4
          gi_wp2
          gi_roundg (N - (j + 1))
          case rel => exact ⟨j + 1, by omega, rfl, by rw [decide_eq_true hjN], fun _ => HR5.out, HJ4.out⟩
          case measure => have := Hgk.out; omega
      · have HJx := hid_ hJx3; clear hJx3
        gi_wp2
        exact ⟨rfl, _, results_none rfl _ _ _, ⟨_, rfl⟩, .inr ⟨j + 1, by omega, HJx.out⟩⟩
    · obtain rfl : j = N := by omega
      rw [decide_eq_false hlt]
      have HJj := hid_ hJj
      clear hR hJj
      gi_wp2
      go_end0
      exact ⟨⟨_, rfl⟩, .inl HJj.out⟩
end Go.Proofs.Ytdnlpikfibdjoaa
namespace Go.Proofs.Ytdnlpikfibdjoaa
open Go.RowKit Go.Proofs.Kv

/-! ### all cells: the document's -/
def extK (o : List Int) (m : Nat) : List (List Int) := (List.range m).map fun x : Nat => o ++ [(x : Int)]
def stepK (m : Nat) (O : List (List Int)) (i : Nat) : List (List Int) := (O.take i).flatMap fun o => extK o m
theorem extK_succ (o : List Int) (m : Nat) : extK o (m + 1) = extK o m ++ [o ++ [(m : Int)]] := by simp [extK, List.range_succ]
theorem extK_len (o : List Int) (m : Nat) : (extK o m).length = m := by simp [extK]
theorem stepK_snoc {m i : Nat} {O : List (List Int)} (h : i < O.length) : stepK m O (i + 1) = stepK m O i ++ extK (O.getD i []) m := by
  rw [stepK, Kv.take_snoc _ [] i h, List.flatMap_append]; simp [stepK]
theorem stepK_all (m : Nat) (O : List (List Int)) : stepK m O O.length = O.flatMap fun o => extK o m := by rw [stepK, List.take_length]
theorem stepK_le (m : Nat) (O : List (List Int)) (i : Nat) : (stepK m O i).length ≤ O.length * m := by
  have key : ∀ M : List (List Int), (M.flatMap fun o => extK o m).length = M.length * m := by
    intro M
    induction M with
    | nil => simp
    | cons o M ih => rw [List.flatMap_cons, List.length_append, List.length_cons, Nat.succ_mul, extK_len, ih]; omega
  rw [stepK, key, List.length_take]
  exact Nat.mul_le_mul_right _ (Nat.min_le_right _ _)
theorem ownL_one (w : World) (E : TypeId) : OwnL E (w.alloc (.cells #[.slice none 0 0] E)) w.heap.size (.slice (some ⟨w.heap.size, 0, none⟩) 1 1) [[]] :=
  ⟨[.slice none 0 0], World.ownsRow_lit (base := w.heap.size) (e := E) (size := 1) w #[.slice none 0 0] 1 (Nat.le_refl _) (by unfold maxLen; omega) rfl, fun i hi => by
    obtain rfl : i = 0 := by simpa using hi
    exact ⟨none, 0, 0, rfl, IntsAt.nil _ _ _ (by omega), fun _ _ h => absurd h (by omega)⟩⟩
set_option maxRecDepth 100000 in
set_option maxHeartbeats 4000000 in
theorem r6cells_calls (v : Value) (P : Par) (w : World) (h : ParAt w v P) (hv : validP P = 0) :
    Calls Try.prog 107 #[v] w fun e w' => ∃ v', e = .returned v' ∧ MadeL 22 w w' v' (cellsL P.sizes) := by
  obtain ⟨i0, hi0, hz0, hz1, hz2⟩ := info_parts Try.infoInts
  obtain ⟨j0, hj0, hy0, hy1, hy2⟩ := info_parts Try.infoInt
  obtain ⟨-, -, -, hlens⟩ := cells_chain hv
  obtain ⟨a, n, c, a2, n2, c2, rfl, h1, h2⟩ := h
  have hn3 : n ≤ 3 := by rw [← h1.len]; exact (validP_ok hv).1.2
  have HS : Hid (∀ k, k < n → ∃ m : Nat, P.sizes.getD k 0 = (m : Int) ∧ m ≤ 3) := hid_ (fun k hk => by
    have := List.any_eq_false.1 (validP_ok hv).2.1 _ (getD_mem (show k < P.sizes.length by rw [h1.len]; exact hk))
    simp [okSize, Within] at this
    exact ⟨(P.sizes.getD k 0).toNat, (Int.toNat_of_nonneg (Int.le_trans (by decide) this.1)).symm, Int.toNat_le.2 this.2⟩)
  obtain ⟨w1, hw1⟩ : ∃ w1, w.alloc (.cells #[.slice a n c, .slice a2 n2 c2] 25) = w1 := ⟨_, rfl⟩
  have cb : Below w.heap.size w w1 := by rw [← hw1]; exact below_alloc _ _
  have q0 : w1.cell? ⟨w.heap.size, 0, none⟩ = some (.slice a n c) := by rw [← hw1]; exact cells_alloc _ _ _ 0
  have H1 := hid_ (h1.below cb (Nat.le_refl _)); have Hc1 := hid_ cb
  have HLn : Hid (cellsL P.sizes = cellsK P.sizes n) := hid_ (by rw [cellsL, h1.len])
  have Hlens := hid_ (fun k (hk : k ≤ n) => hlens k (by rw [h1.len]; exact hk))
  have HK : Hid (∀ k m : Nat, P.sizes.getD k 0 = (m : Int) → cellsK P.sizes (k + 1) = (cellsK P.sizes k).flatMap fun o => extK o m) := hid_ (fun k m hm => by rw [cellsK, hm, Int.toNat_natCast]; rfl)
  have HKl : Hid (∀ k, ∀ o ∈ cellsK P.sizes k, o.length = k) := hid_ (fun k o ho => (mem_cellsK.1 ho).1)
  have hw1s := cb.size
  clear h1 h2 cb hv hlens
  go_enter Try.func107, Try.ntmps107
  go_wp2
  go_loopw [3, 4] (fun v i wr => ∃ k : Nat, k ≤ n ∧ i = .int .i64 k ∧ OwnL 22 wr w1.heap.size v (cellsK P.sizes k) ∧ Below w1.heap.size w1 wr) (fun _ i _ => n - (intOf i).toNat)
  case atStart => exact ⟨0, Nat.zero_le _, rfl, ownL_one _ _, (Below.refl _ _).alloc (Nat.le_refl _) _⟩
  case round =>
    obtain ⟨k, hk, rfl, hown, hbel⟩ := hrel
    have q0r := cell_below q0 hbel
    by_cases hlt : k < n
    · obtain ⟨a1, c1, rfl, hL⟩ := hown.at_
      obtain ⟨m, hm, hm3⟩ := HS.out k hlt
      have Hnext := hid_ (HK.out k m hm)
      have hOl := Hlens.out k hk
      have Hrow : Hid (∀ o ∈ cellsK P.sizes k, o.length ≤ 3) := hid_ fun o ho => by rw [HKl.out k o ho]; omega
      have Hbel := hid_ hbel
      have hsz := hbel.size
      have Hm := hid_ hm
      clear hown hbel hm
      generalize cellsK P.sizes k = O at hL Hnext hOl Hrow ⊢
      have hO9 : O.length ≤ 9223372036854775807 := by omega
      go_wp2
      obtain ⟨wo, rfl⟩ : ∃ wo : World, wo = wr := ⟨_, rfl⟩
      go_loopw [5, 6] (fun v i wr => ∃ j : Nat, j ≤ O.length ∧ i = .int .i64 j ∧ OwnL 22 wr wo.heap.size v (stepK m O j) ∧ Below wo.heap.size wo wr) (fun _ i _ => O.length - (intOf i).toNat)
      case atStart => exact ⟨0, Nat.zero_le _, rfl, OwnL.nil _ _ _, Below.refl _ _⟩
      case round =>
        obtain ⟨j, hj, rfl, hown2, hbel2⟩ := hrel
        by_cases hlj : j < O.length
        · have hol : (O.getD j []).length ≤ 3 := Hrow.out _ (by simp [List.getD, List.getElem?_eq_getElem hlj])
          have Hsn := hid_ (stepK_snoc (m := m) hlj)
          have hcl := stepK_le m O j
          have Hcl : Hid ((stepK m O j).length ≤ 81) := hid_ (Nat.le_trans hcl (Nat.mul_le_mul hOl hm3))
          clear hcl
          generalize stepK m O j = cur at hown2 Hsn Hcl
          have HL : Hid (∀ W, Below wo.heap.size wo W → ∃ b off a2 n2 c2, a1 = some ⟨b, off, none⟩ ∧ b < W.heap.size ∧ W.cell? ⟨b, off + j, none⟩ = some (.slice a2 n2 c2) ∧ IntsAt W a2 n2 c2 (O.getD j [])) := hid_ fun W hW => (hL.below hW (Nat.le_refl _)).cells j hlj
          generalize O.getD j [] = o at HL hol Hsn
          go_wp2
          obtain ⟨wm, rfl⟩ : ∃ wm : World, wm = wr := ⟨_, rfl⟩
          go_loopw [5, 7] (fun v i wr => ∃ x : Nat, x ≤ m ∧ i = .int .i64 x ∧ OwnL 22 wr wo.heap.size v (cur ++ extK o x) ∧ Below wo.heap.size wo wr) (fun _ i _ => m - (intOf i).toNat)
          case atStart => exact ⟨0, Nat.zero_le _, rfl, by rw [show extK o 0 = [] from rfl, List.append_nil]; exact hown2, hbel2⟩
          case round =>
            obtain ⟨x, hx, rfl, hown3, hbel3⟩ := hrel
            have q0x := cell_below q0r hbel3
            obtain ⟨bs, offs, rfl, hbs, hcs⟩ := (H1.out.below (Hbel.out.trans (hbel3.mono hsz)) (Nat.le_refl _)).cells k hlt
            rw [Hm.out] at hcs
            by_cases hlx : x < m
            · obtain ⟨b, off, a3, n3, c3, rfl, hb3, hcell3, hrow3⟩ := HL.out wr hbel3
              have Hs := hid_ (extK_succ o x)
              have Hcl3 : Hid ((cur ++ extK o x).length ≤ 84) := hid_ (by
                have h1 := Hcl.out
                have h2 := extK_len o x
                rw [List.length_append]; omega)
              generalize hcu : cur ++ extK o x = cu3 at hown3 Hcl3
              have Hcu := hid_ hcu; clear hcu
              have Hlt3 : Hid (∀ b, u5.ownBlock = some b → b < wr.heap.size) := hid_ fun b hb => (hown3.lt b hb).2
              have hol1 : ([] : List Int).length = 0 := rfl
              have hn2 : 0 + n3 ≤ 1000000 := by have := hrow3.len; omega
              have hn4 : n3 + 1 ≤ 1000000 := by have := hrow3.len; omega
              have hsz3 := hbel3.size
              go_wp2_with (first
                | (at_builtin; refine wpList_append_ints _ rfl (.tmp 32) (.tmp 36) _ rfl wr.heap.size 3 j0 Try.underlying22 hj0 hy0 hy1 hy2 _ 0 [] rfl (World.ownsRow_lit (base := wr.heap.size) (e := 3) (size := 1) wr #[] 0 (Nat.le_refl _) (by unfold maxLen; omega) rfl) a3 n3 c3 o rfl (hrow3.below ((Below.refl wr.heap.size wr).alloc (Nat.le_refl _) _) (Nat.le_refl _)) hn2 (by simp) ?_; intro v1 w1 hown4 hg1 hat1; simp only [Nat.zero_add, List.nil_append] at hown4; have hb4 : Below wr.heap.size wr w1 := ((Below.refl wr.heap.size wr).alloc (Nat.le_refl _) _).grown hg1 (by simp) fun r e => by cases e; exact Nat.le_refl _)
                | (at_builtin; refine wpList_append_ints _ rfl (.tmp 37) (.tmp 39) _ rfl wr.heap.size 3 j0 Try.underlying22 hj0 hy0 hy1 hy2 v1 n3 o rfl (hown4.alloc _) _ 1 1 [(x : Int)] rfl (IntsAt.one w1 x 3) hn4 (le_alloc hb4.size) ?_; intro v2 w2 hown5 hg2 hat2; obtain ⟨a5, c5, rfl, hI5⟩ := IntsAt.own hown5; have hb5 : Below wr.heap.size wr w2 := (hb4.alloc hb4.size _).grown hg2 (le_alloc hb4.size) fun r e => (hown4.lt r e).1)
                | (at_builtin; refine wpList_push_list _ rfl (.tmp 31) (.tmp 41) _ rfl wo.heap.size 22 i0 Try.underlying43 hi0 hz0 hz1 hz2 u5 cu3 rfl (hown3.below hb5 (Nat.le_refl _)) a5 (n3 + 1) c5 (o ++ [(x : Int)]) 22 rfl hI5 (fun b off hb ha e => by have h1 := Hlt3.out b e; have h2 := (hown5.lt b (by rw [ha]; rfl)).1; omega) (by have := Hcl3.out; omega) (Nat.le_trans hsz3 hb5.size) ?_; intro v6 w6 hown6 hg6 hat6))
              have hb6 : Below wo.heap.size wo w6 := belowL_app (hbel3.trans (hb5.mono hsz3)) (Nat.le_trans hsz3 hb5.size) (hown3.below hb5 (Nat.le_refl _)) hg6
              go_roundw
              case rel => exact ⟨x + 1, by omega, by go_num, by rw [Hs.out, ← List.append_assoc, Hcu.out]; exact hown6, hb6⟩
              case measure => simp [intOf]; omega
            · obtain rfl : x = m := by omega
              go_wp2
              go_roundw
              case rel => exact ⟨j + 1, by omega, by go_num, by rw [Hsn.out]; exact hown3, hbel3⟩
              case measure => simp [intOf]; omega
        · obtain rfl : j = O.length := by omega
          rw [stepK_all] at hown2
          have Hb := hid_ (Hbel.out.trans (hbel2.mono hsz))
          go_wp2
          go_roundw
          case rel => exact ⟨k + 1, by omega, by go_num, by rw [Hnext.out]; exact hown2.base hsz, Hb.out⟩
          case measure => simp [intOf]; omega
    · obtain rfl : k = n := by omega
      go_wp2
      go_ret
      exact ⟨_, rfl, by rw [HLn.out]; exact hown.base hw1s, Hc1.out.trans (hbel.mono hw1s)⟩
end Go.Proofs.Ytdnlpikfibdjoaa
namespace Go.Proofs.Ytdnlpikfibdjoaa
open Go.RowKit Go.Proofs.Kv

set_option maxRecDepth 100000 in
set_option maxHeartbeats 4000000 in
theorem cematches_calls (v : Value) (P : Par) (a : Option Addr) (n c : Nat) (l : List Int) (w : World) (h : ParAt w v P) (hl : IntsAt w a n c l) (hv : validP P = 0) (hs : P.sizes.length = n) :
    Calls Try.prog 80 #[v, .slice a n c] w fun e w' => ∃ v', e = .returned v' ∧ Made 3 w w' v' (matL P l) := by
  obtain ⟨i0, hi0, hz0, hz1, hz2⟩ := info_parts Try.infoInt
  obtain ⟨-, -, h10, hent⟩ := validP_ok hv
  obtain ⟨a1, n1, c1, a2, n2, c2, rfl, h1, h2⟩ := h
  have h10' : n2 ≤ 10 := by rw [← h2.len]; exact h10
  obtain ⟨w1, hw1⟩ : ∃ w1, w.alloc (.cells #[.slice a1 n1 c1, .slice a2 n2 c2] 25) = w1 := ⟨_, rfl⟩
  have cb : Below w.heap.size w w1 := by rw [← hw1]; exact below_alloc _ _
  have q0 : w1.cell? ⟨w.heap.size, 0, none⟩ = some (.slice a1 n1 c1) := by rw [← hw1]; exact cells_alloc _ _ _ 0
  have q1 : w1.cell? ⟨w.heap.size, 1, none⟩ = some (.slice a2 n2 c2) := by rw [← hw1]; exact cells_alloc _ _ _ 1
  have HE := hid_ (fun k (hk : k < n2) => specB_ok (hent k (by rw [h2.len]; exact hk)).1)
  have HL := hid_ (hl.below cb (Nat.le_refl _)); have H2 := hid_ (h2.below cb (Nat.le_refl _)); have Hc1 := hid_ cb
  have HM : Hid (matL P l = matK P l n2) := hid_ (by rw [matL, h2.len])
  have Hs := hid_ hs
  clear h1 h2 hl cb hent hv h10 hs
  go_enter Try.func80, Try.ntmps80
  go_wp2
  go_loopw [5, 11] (fun v i wr => ∃ k : Nat, k ≤ n2 ∧ i = .int .i64 k ∧ wr.ownsRow w1.heap.size 3 1 v (matK P l k).length ((matK P l k).map (Value.int .i64)) ∧ Below w1.heap.size w1 wr) (fun _ i _ => n2 - (intOf i).toNat)
  case atStart => exact ⟨0, Nat.zero_le _, rfl, World.ownsRow_nil _ _ _ _, Below.refl _ _⟩
  case round =>
    obtain ⟨k, hk, rfl, hown, hb⟩ := hrel
    have hsz := hb.size
    have q0r := cell_below q0 hb; have q1r := cell_below q1 hb
    by_cases hlt : k < n2
    · obtain ⟨b, off, a3, n3, c3, rfl, -, k0, k1, hi⟩ := (H2.out.below hb (Nat.le_refl _)).cells k hlt
      obtain ⟨e1, e2⟩ := HE.out k hlt
      have hle := matK_le P l k
      have hs1 : (matK P l k).length + 1 ≤ 1000000 := by omega
      have Hhit := hid_ (@matK_hit P l k); have Hmiss := hid_ (@matK_miss P l k)
      have e3 : n3 = n := by rw [← hi.len, e1, Hs.out]
      generalize (P.ents.getD k E0).form = fm at *
      obtain ⟨wb, hwb⟩ : ∃ wb, wr.alloc (.cells #[.slice a3 n3 c3, .int .i64 fm] 39) = wb := ⟨_, rfl⟩
      have hcb : Below wr.heap.size wr wb := by rw [← hwb]; exact below_alloc _ _
      have u0 : wb.cell? ⟨wr.heap.size, 0, none⟩ = some (.slice a3 n3 c3) := by rw [← hwb]; exact cells_alloc _ _ _ 0
      have u1 : wb.cell? ⟨wr.heap.size, 1, none⟩ = some (.int .i64 fm) := by rw [← hwb]; exact cells_alloc _ _ _ 1
      have hob := own_below hown hcb (Nat.le_refl _)
      have hszb : w1.heap.size ≤ wb.heap.size := Nat.le_trans hsz hcb.size
      have hbb := hb.trans (hcb.mono hsz)
      have Hc := hid_ (ceWithin_calls a n c l a3 n3 c3 _ wb ((HL.out.below hb (Nat.le_refl _)).below hcb (Nat.le_refl _)) (hi.below hcb (Nat.le_refl _)) (by omega))
      have Hob := hid_ hob; have Hbb := hid_ hbb
      clear e1 e2 e3 hi q0 hob hbb hown hb
      generalize hhv : hB (P.ents.getD k E0).spec l = hv at *
      cases hv with
      | true =>
        have Hm := hid_ (Hhit.out rfl)
        clear hhv
        go_wp2_with (first
          | (go_at_call 120; (with_reducible refine Hc.out.mono ?_); rintro e w5 ⟨rfl, rfl⟩)
          | (at_builtin; refine wpList_append_ints _ rfl (.tmp 20) (.tmp 22) _ rfl w1.heap.size 3 i0 Try.underlying22 hi0 hz0 hz1 hz2 _ _ _ rfl (Hob.out.alloc _) _ _ _ _ rfl (IntsAt.one _ _ _) hs1 (le_alloc hszb) ?_; intro v' w6 hown1 hg1 hat1))
        go_roundw
        case rel => exact ⟨k + 1, by omega, by go_num, by rw [Hm.out]; simpa using hown1, below_app Hbb.out hszb Hob.out hg1⟩
        case measure => simp [intOf]; omega
      | false =>
        have Hm := hid_ (Hmiss.out rfl)
        clear hhv
        go_wp2_with (go_at_call 120; (with_reducible refine Hc.out.mono ?_); rintro e w5 ⟨rfl, rfl⟩)
        go_roundw
        case rel => exact ⟨k + 1, by omega, by go_num, by rw [Hm.out]; exact Hob.out, Hbb.out⟩
        case measure => simp [intOf]; omega
    · obtain rfl : n2 = k := by omega
      go_wp2
      go_ret
      exact ⟨_, rfl, by rw [HM.out]; exact own_base hown Hc1.out.size, Hc1.out.trans (hb.mono Hc1.out.size)⟩
end Go.Proofs.Ytdnlpikfibdjoaa
namespace Go.Proofs.Ytdnlpikfibdjoaa
open Go.RowKit Go.Proofs.Kv

/-! ### the errors of a paradigm and cells -/
def errC (P : Par) (L : List (List Int)) : Int := if validP P = 0 then (if L.any (fun l => !specB P.sizes l 0) then 1 else 0) else validP P
set_option maxRecDepth 100000 in
set_option maxHeartbeats 4000000 in
theorem validateCells_calls (v : Value) (P : Par) (a : Option Addr) (n c : Nat) (L : List (List Int)) (w : World) (h : ParAt w v P) (hl : ListsAt w a n c L) :
    Calls Try.prog 72 #[v, .slice a n c] w fun e w' => e = .returned (.int .i64 (errC P L)) ∧ Below w.heap.size w w' := by
  have HP := hid_ h
  obtain ⟨a1, n1, c1, a2, n2, c2, rfl, h1, h2⟩ := h
  have hn : n ≤ 9223372036854775807 := Nat.le_trans hl.le hl.small
  obtain ⟨w1, hw1⟩ : ∃ w1, w.alloc (.cells #[.slice a1 n1 c1, .slice a2 n2 c2] 25) = w1 := ⟨_, rfl⟩
  have cb : Below w.heap.size w w1 := by rw [← hw1]; exact below_alloc _ _
  have q0 : w1.cell? ⟨w.heap.size, 0, none⟩ = some (.slice a1 n1 c1) := by rw [← hw1]; exact cells_alloc _ _ _ 0
  have q1 : w1.cell? ⟨w.heap.size, 1, none⟩ = some (.slice a2 n2 c2) := by rw [← hw1]; exact cells_alloc _ _ _ 1
  have HL := hid_ (hl.below cb (Nat.le_refl _)); have H1 := hid_ (h1.below cb (Nat.le_refl _)); have Hc1 := hid_ cb
  have HV := hid_ (ceValidate_calls _ P w1 (HP.out.below cb (Nat.le_refl _)))
  have HNo := hid_ (fun hall => any_no (p := fun l => !specB P.sizes l 0) ([] : List Int) hl.len hall)
  have HHi := hid_ (fun k (hk : k < n) hh => any_hit (p := fun l => !specB P.sizes l 0) (k := k) ([] : List Int) (by rw [hl.len]; exact hk) hh)
  have HE : Hid (errC P L = if validP P = 0 then (if L.any (fun l => !specB P.sizes l 0) then 1 else 0) else validP P) := hid_ rfl
  clear h1 h2 hl cb
  by_cases hv : validP P = 0
  · have HE2 : Hid (errC P L = if L.any (fun l => !specB P.sizes l 0) then 1 else 0) := hid_ (by rw [HE.out, if_pos hv])
    rw [hv] at HV
    clear hv
    go_enter Try.func72, Try.ntmps72
    go_wp2_with (go_at_call 52; (with_reducible refine HV.out.mono ?_); rintro e w2 ⟨rfl, hb2⟩; have q0b := cell_below q0 hb2; have q1b := cell_below q1 hb2)
    have HL2 := hid_ (HL.out.below hb2 (Nat.le_refl _)); have H12 := hid_ (H1.out.below hb2 (Nat.le_refl _)); have Hb2 := hid_ hb2
    clear hb2 q0 q1
    go_loop [15] (fun i => ∃ k : Nat, k ≤ n ∧ i = .int .i64 k ∧ ∀ j, j < k → (!specB P.sizes (L.getD j []) 0) = false) (fun i => n - (intOf i).toNat)
    case atStart => exact ⟨0, Nat.zero_le _, rfl, fun _ h => absurd h (by omega)⟩
    case round =>
      obtain ⟨k, hk, rfl, hall⟩ := hrel
      have Hall := hid_ hall
      clear hall
      by_cases hlt : k < n
      · obtain ⟨b, off, a3, n3, c3, rfl, hbl, hcell, hrow⟩ := HL2.out.cells k hlt
        have hhi := HHi.out k hlt
        have hy := fun hx => lt_snoc (p := fun j => (!specB P.sizes (L.getD j []) 0) = false) Hall.out hx
        have HA := hid_ (areValues_calls a1 n1 c1 P.sizes a3 n3 c3 (L.getD k []) 0 w2 H12.out hrow)
        clear hrow hbl
        cases hsp : specB P.sizes (L.getD k []) 0 with
        | false =>
          rw [hsp] at HA
          have Hf : Hid (errC P L = 1) := hid_ (by rw [HE2.out, hhi (by rw [hsp]; rfl)]; rfl)
          clear hhi hy hsp
          go_wp2_with (go_at_call 104; (with_reducible refine HA.out.mono ?_); rintro e w5 ⟨rfl, rfl⟩)
          go_ret
          exact ⟨retI Hf.out, Hc1.out.trans (Hb2.out.mono Hc1.out.size)⟩
        | true =>
          rw [hsp] at HA
          have Hf := hid_ (hy (by rw [hsp]; rfl))
          clear hhi hy hsp
          go_wp2_with (go_at_call 104; (with_reducible refine HA.out.mono ?_); rintro e w5 ⟨rfl, rfl⟩)
          go_round
          case rel => exact ⟨k + 1, by omega, by go_num, Hf.out⟩
          case measure => simp [intOf]; omega
      · obtain rfl : n = k := by omega
        have Hf : Hid (errC P L = 0) := hid_ (by rw [HE2.out, HNo.out Hall.out]; rfl)
        go_wp2
        go_ret
        exact ⟨retI Hf.out, Hc1.out.trans (Hb2.out.mono Hc1.out.size)⟩
  · have Hf : Hid (errC P L = validP P) := hid_ (by rw [HE.out, if_neg hv])
    have hq : (validP P != 0) = true := by simpa using hv
    generalize validP P = x at *
    clear hv
    go_enter Try.func72, Try.ntmps72
    go_wp2_with (go_at_call 52; (with_reducible refine HV.out.mono ?_); rintro e w2 ⟨rfl, hb2⟩)
    go_ret
    exact ⟨retI Hf.out, Hc1.out.trans (hb2.mono Hc1.out.size)⟩
end Go.Proofs.Ytdnlpikfibdjoaa
namespace Go.Proofs.Ytdnlpikfibdjoaa
open Go.RowKit Go.Proofs.Kv

/-! ### Matches -/
theorem lists_one {w : World} {a : Option Addr} {n c : Nat} {l : List Int} (h : IntsAt w a n c l) (E : TypeId) : ListsAt (w.alloc (.cells #[.slice a n c] E)) (some ⟨w.heap.size, 0, none⟩) 1 1 [l] :=
  ⟨rfl, Nat.le_refl _, by omega, fun i hi => by
    obtain rfl : i = 0 := by omega
    exact ⟨w.heap.size, 0, a, n, c, rfl, by simp, cells_alloc _ _ _ 0, h.below (below_alloc _ _) (Nat.le_refl _)⟩⟩
theorem errC_ok {P : Par} {l : List Int} (h : errC P [l] = 0) : validP P = 0 ∧ specB P.sizes l 0 = true := by
  unfold errC at h
  split at h
  · rename_i hv
    refine ⟨hv, ?_⟩
    simp only [List.any_cons, List.any_nil, Bool.or_false] at h
    cases hs : specB P.sizes l 0 with
    | true => rfl
    | false => rw [hs] at h; exact absurd h (by decide)
  · rename_i hv; exact absurd h hv
def resMatches (P : Par) (l : List Int) : List Int := if errC P [l] = 0 then matL P l else []
set_option maxRecDepth 100000 in
set_option maxHeartbeats 4000000 in
theorem ceMatches_calls (v : Value) (P : Par) (a : Option Addr) (n c : Nat) (l : List Int) (w : World) (h : ParAt w v P) (hl : IntsAt w a n c l) :
    Calls Try.prog 34 #[v, .slice a n c] w fun e w' => ∃ v', e = .returned (.tuple #[v', .int .i64 (errC P [l])]) ∧ Made 3 w w' v' (resMatches P l) := by
  have HP := hid_ h
  obtain ⟨a1, n1, c1, a2, n2, c2, rfl, h1, h2⟩ := h
  obtain ⟨w1, hw1⟩ : ∃ w1, w.alloc (.cells #[.slice a1 n1 c1, .slice a2 n2 c2] 25) = w1 := ⟨_, rfl⟩
  have cb : Below w.heap.size w w1 := by rw [← hw1]; exact below_alloc _ _
  have q0 : w1.cell? ⟨w.heap.size, 0, none⟩ = some (.slice a1 n1 c1) := by rw [← hw1]; exact cells_alloc _ _ _ 0
  have q1 : w1.cell? ⟨w.heap.size, 1, none⟩ = some (.slice a2 n2 c2) := by rw [← hw1]; exact cells_alloc _ _ _ 1
  have HP1 := hid_ (HP.out.below cb (Nat.le_refl _))
  have HL := hid_ (hl.below cb (Nat.le_refl _)); have Hc1 := hid_ cb
  have HE := hid_ (fun T => validateCells_calls _ P _ 1 1 [l] (w1.alloc (.cells #[.slice a n c] T)) (HP1.out.below (below_alloc _ _) (Nat.le_refl _)) (lists_one HL.out T))
  have Hlen := hid_ hl.len
  clear h1 h2 hl cb
  by_cases he : errC P [l] = 0
  · have Hf : Hid (resMatches P l = matL P l) := hid_ (if_pos he)
    obtain ⟨hv, hs⟩ := errC_ok he
    have HM := hid_ (fun W (hW : Below w1.heap.size w1 W) => cematches_calls _ P a n c l W (HP1.out.below hW (Nat.le_refl _)) (HL.out.below hW (Nat.le_refl _)) hv (by rw [← (specB_ok hs).1, Hlen.out]))
    rw [he] at HE ⊢
    clear he hv hs
    go_enter Try.func34, Try.ntmps34
    go_wp2_with (first
      | (go_at_call 72; (with_reducible refine (HE.out _).mono ?_); rintro e w2 ⟨rfl, hb2⟩; have hb3 := (below_alloc w1 (.cells #[.slice a n c] 22)).trans (hb2.mono (below_alloc w1 (.cells #[.slice a n c] 22)).size); have q0b := cell_below q0 hb3; have q1b := cell_below q1 hb3)
      | (go_at_call 80; (with_reducible refine (HM.out _ hb3).mono ?_); rintro e w4 ⟨v4, rfl, hm⟩))
    go_ret2
    exact ⟨_, rfl, by rw [Hf.out]; exact hm.after (Hc1.out.trans (hb3.mono Hc1.out.size))⟩
  · have Hf : Hid (resMatches P l = []) := hid_ (if_neg he)
    have hq : (errC P [l] != 0) = true := by simpa using he
    generalize errC P [l] = x at *
    clear he
    go_enter Try.func34, Try.ntmps34
    go_wp2_with (go_at_call 72; (with_reducible refine (HE.out _).mono ?_); rintro e w2 ⟨rfl, hb2⟩; have hb3 := (below_alloc w1 (.cells #[.slice a n c] 22)).trans (hb2.mono (below_alloc w1 (.cells #[.slice a n c] 22)).size))
    go_ret2
    exact ⟨_, rfl, by rw [Hf.out]; exact Made.none_ _ (Hc1.out.trans (hb3.mono Hc1.out.size))⟩
end Go.Proofs.Ytdnlpikfibdjoaa
namespace Go.Proofs.Ytdnlpikfibdjoaa
open Go.RowKit Go.Proofs.Kv

/-! ### the errors of a paradigm and numbers of entries -/
def isNo (P : Par) (i : Int) : Bool := Within i 0 ((P.ents.length : Int) - 1)
def errN (P : Par) (L : List Int) : Int := if validP P = 0 then (if L.any (fun i => !isNo P i) then 4 else 0) else validP P
set_option maxRecDepth 100000 in
set_option maxHeartbeats 4000000 in
theorem validateEntries_calls (v : Value) (P : Par) (a : Option Addr) (n c : Nat) (L : List Int) (w : World) (h : ParAt w v P) (hl : IntsAt w a n c L) :
    Calls Try.prog 62 #[v, .slice a n c] w fun e w' => e = .returned (.int .i64 (errN P L)) ∧ Below w.heap.size w w' := by
  have HP := hid_ h
  obtain ⟨a1, n1, c1, a2, n2, c2, rfl, h1, h2⟩ := h
  have hn : n ≤ 9223372036854775807 := Nat.le_trans hl.le hl.small
  have hn2 : n2 ≤ 9223372036854775807 := Nat.le_trans h2.le h2.small
  obtain ⟨w1, hw1⟩ : ∃ w1, w.alloc (.cells #[.slice a1 n1 c1, .slice a2 n2 c2] 25) = w1 := ⟨_, rfl⟩
  have cb : Below w.heap.size w w1 := by rw [← hw1]; exact below_alloc _ _
  have q0 : w1.cell? ⟨w.heap.size, 0, none⟩ = some (.slice a1 n1 c1) := by rw [← hw1]; exact cells_alloc _ _ _ 0
  have q1 : w1.cell? ⟨w.heap.size, 1, none⟩ = some (.slice a2 n2 c2) := by rw [← hw1]; exact cells_alloc _ _ _ 1
  have HL := hid_ (hl.below cb (Nat.le_refl _)); have Hc1 := hid_ cb
  have HV := hid_ (ceValidate_calls _ P w1 (HP.out.below cb (Nat.le_refl _)))
  have HNo := hid_ (fun hall => any_no (p := fun i => !isNo P i) (0 : Int) hl.len hall)
  have HHi := hid_ (fun k (hk : k < n) hh => any_hit (p := fun i => !isNo P i) (k := k) (0 : Int) (by rw [hl.len]; exact hk) hh)
  have HI : Hid (∀ x, isNo P x = (decide (0 ≤ x) && decide (x ≤ (n2 : Int) - 1))) := hid_ (fun x => by rw [isNo, h2.len]; rfl)
  have HE : Hid (errN P L = if validP P = 0 then (if L.any (fun i => !isNo P i) then 4 else 0) else validP P) := hid_ rfl
  clear h1 h2 hl cb
  by_cases hv : validP P = 0
  · have HE2 : Hid (errN P L = if L.any (fun i => !isNo P i) then 4 else 0) := hid_ (by rw [HE.out, if_pos hv])
    rw [hv] at HV
    clear hv
    go_enter Try.func62, Try.ntmps62
    go_wp2_with (go_at_call 52; (with_reducible refine HV.out.mono ?_); rintro e w2 ⟨rfl, hb2⟩; have q0b := cell_below q0 hb2; have q1b := cell_below q1 hb2)
    have HL2 := hid_ (HL.out.below hb2 (Nat.le_refl _)); have Hb2 := hid_ hb2
    clear hb2 q0 q1
    go_loop [15] (fun i => ∃ k : Nat, k ≤ n ∧ i = .int .i64 k ∧ ∀ j, j < k → (!isNo P (L.getD j 0)) = false) (fun i => n - (intOf i).toNat)
    case atStart => exact ⟨0, Nat.zero_le _, rfl, fun _ h => absurd h (by omega)⟩
    case round =>
      obtain ⟨k, hk, rfl, hall⟩ := hrel
      have Hall := hid_ hall
      clear hall
      by_cases hlt : k < n
      · obtain ⟨b, off, rfl, -, hc⟩ := HL2.out.cells k hlt
        have hhi := HHi.out k hlt
        have hy := fun hx => lt_snoc (p := fun j => (!isNo P (L.getD j 0)) = false) Hall.out hx
        have hi := HI.out (L.getD k 0)
        generalize L.getD k 0 = x at *
        by_cases g0 : x < 0
        · have Hf : Hid (errN P L = 4) := hid_ (by rw [HE2.out, hhi (by rw [hi, decide_eq_false (show ¬ 0 ≤ x by omega)]; rfl)]; rfl)
          clear hhi hy hi
          go_wp2
          go_ret
          exact ⟨retI Hf.out, Hc1.out.trans (Hb2.out.mono Hc1.out.size)⟩
        · by_cases g1 : (n2 : Int) ≤ x
          · have Hf : Hid (errN P L = 4) := hid_ (by rw [HE2.out, hhi (by rw [hi, decide_eq_false (show ¬ x ≤ (n2 : Int) - 1 by omega)]; simp)]; rfl)
            clear hhi hy hi
            go_wp2
            go_ret
            exact ⟨retI Hf.out, Hc1.out.trans (Hb2.out.mono Hc1.out.size)⟩
          · have Hf := hid_ (hy (by rw [hi, decide_eq_true (show 0 ≤ x by omega), decide_eq_true (show x ≤ (n2 : Int) - 1 by omega)]; rfl))
            clear hhi hy hi
            go_wp2
            go_round
            case rel => exact ⟨k + 1, by omega, by go_num, Hf.out⟩
            case measure => simp [intOf]; omega
      · obtain rfl : n = k := by omega
        have Hf : Hid (errN P L = 0) := hid_ (by rw [HE2.out, HNo.out Hall.out]; rfl)
        go_wp2
        go_ret
        exact ⟨retI Hf.out, Hc1.out.trans (Hb2.out.mono Hc1.out.size)⟩
  · have Hf : Hid (errN P L = validP P) := hid_ (by rw [HE.out, if_neg hv])
    have hq : (validP P != 0) = true := by simpa using hv
    generalize validP P = x at *
    clear hv
    go_enter Try.func62, Try.ntmps62
    go_wp2_with (go_at_call 52; (with_reducible refine HV.out.mono ?_); rintro e w2 ⟨rfl, hb2⟩)
    go_ret
    exact ⟨retI Hf.out, Hc1.out.trans (hb2.mono Hc1.out.size)⟩
end Go.Proofs.Ytdnlpikfibdjoaa
namespace Go.Proofs.Ytdnlpikfibdjoaa
open Go.RowKit Go.Proofs.Kv

theorem errN2 (P : Par) (i j : Int) : errN P [i, j] = if validP P = 0 then (if isNo P i && isNo P j then 0 else 4) else validP P := by
  unfold errN
  by_cases h : validP P = 0
  · rw [if_pos h, if_pos h]
    simp only [List.any_cons, List.any_nil, Bool.or_false]
    cases isNo P i <;> cases isNo P j <;> rfl
  · rw [if_neg h, if_neg h]
set_option maxRecDepth 100000 in
set_option maxHeartbeats 4000000 in
theorem numbered_calls (v : Value) (P : Par) (i j : Int) (w : World) (h : ParAt w v P) :
    Calls Try.prog 63 #[v, .int .i64 i, .int .i64 j] w fun e w' => e = .returned (.int .i64 (errN P [i, j])) ∧ Below w.heap.size w w' := by
  have HP := hid_ h
  obtain ⟨a1, n1, c1, a2, n2, c2, rfl, h1, h2⟩ := h
  have hn2 : n2 ≤ 9223372036854775807 := Nat.le_trans h2.le h2.small
  obtain ⟨w1, hw1⟩ : ∃ w1, w.alloc (.cells #[.slice a1 n1 c1, .slice a2 n2 c2] 25) = w1 := ⟨_, rfl⟩
  have cb : Below w.heap.size w w1 := by rw [← hw1]; exact below_alloc _ _
  have q0 : w1.cell? ⟨w.heap.size, 0, none⟩ = some (.slice a1 n1 c1) := by rw [← hw1]; exact cells_alloc _ _ _ 0
  have q1 : w1.cell? ⟨w.heap.size, 1, none⟩ = some (.slice a2 n2 c2) := by rw [← hw1]; exact cells_alloc _ _ _ 1
  have Hc1 := hid_ cb
  have HV := hid_ (r6Validate_calls _ P w1 (HP.out.below cb (Nat.le_refl _)))
  have HE := hid_ (errN2 P i j)
  have HWi := hid_ (fun W => within6_calls i 0 ((n2 : Int) - 1) W)
  have HWj := hid_ (fun W => within6_calls j 0 ((n2 : Int) - 1) W)
  have hi : Within i 0 ((n2 : Int) - 1) = isNo P i := by rw [isNo, h2.len]
  have hj : Within j 0 ((n2 : Int) - 1) = isNo P j := by rw [isNo, h2.len]
  rw [hi] at HWi
  rw [hj] at HWj
  clear h1 h2 cb hi hj
  by_cases hv : validP P = 0
  · have HE2 : Hid (errN P [i, j] = if isNo P i && isNo P j then 0 else 4) := hid_ (by rw [HE.out, if_pos hv])
    rw [hv] at HV
    clear hv
    generalize isNo P i = bi at *
    generalize isNo P j = bj at *
    cases bi with
    | false =>
      have Hf : Hid (errN P [i, j] = 4) := hid_ (by rw [HE2.out]; rfl)
      go_enter Try.func63, Try.ntmps63
      go_wp2_with (first
        | (go_at_call 54; (with_reducible refine HV.out.mono ?_); rintro e w2 ⟨rfl, hb2⟩; have q0b := cell_below q0 hb2; have q1b := cell_below q1 hb2)
        | (go_at_call 105; (with_reducible refine (HWi.out _).mono ?_); rintro e w3 ⟨rfl, rfl⟩))
      go_ret
      exact ⟨retI Hf.out, Hc1.out.trans (hb2.mono Hc1.out.size)⟩
    | true =>
      cases bj with
      | false =>
        have Hf : Hid (errN P [i, j] = 4) := hid_ (by rw [HE2.out]; rfl)
        go_enter Try.func63, Try.ntmps63
        go_wp2_with (first
          | (go_at_call 54; (with_reducible refine HV.out.mono ?_); rintro e w2 ⟨rfl, hb2⟩; have q0b := cell_below q0 hb2; have q1b := cell_below q1 hb2)
          | (go_at_call 105; (with_reducible refine (HWi.out _).mono ?_); rintro e w3 ⟨rfl, rfl⟩)
          | (go_at_call 105; (with_reducible refine (HWj.out _).mono ?_); rintro e w3 ⟨rfl, rfl⟩))
        go_ret
        exact ⟨retI Hf.out, Hc1.out.trans (hb2.mono Hc1.out.size)⟩
      | true =>
        have Hf : Hid (errN P [i, j] = 0) := hid_ (by rw [HE2.out]; rfl)
        go_enter Try.func63, Try.ntmps63
        go_wp2_with (first
          | (go_at_call 54; (with_reducible refine HV.out.mono ?_); rintro e w2 ⟨rfl, hb2⟩; have q0b := cell_below q0 hb2; have q1b := cell_below q1 hb2)
          | (go_at_call 105; (with_reducible refine (HWi.out _).mono ?_); rintro e w3 ⟨rfl, rfl⟩)
          | (go_at_call 105; (with_reducible refine (HWj.out _).mono ?_); rintro e w3 ⟨rfl, rfl⟩))
        go_ret
        exact ⟨retI Hf.out, Hc1.out.trans (hb2.mono Hc1.out.size)⟩
  · have Hf : Hid (errN P [i, j] = validP P) := hid_ (by rw [HE.out, if_neg hv])
    have hq : (validP P != 0) = true := by simpa using hv
    generalize validP P = x at *
    clear hv
    go_enter Try.func63, Try.ntmps63
    go_wp2_with (go_at_call 54; (with_reducible refine HV.out.mono ?_); rintro e w2 ⟨rfl, hb2⟩)
    go_ret
    exact ⟨retI Hf.out, Hc1.out.trans (hb2.mono Hc1.out.size)⟩
end Go.Proofs.Ytdnlpikfibdjoaa
namespace Go.Proofs.Ytdnlpikfibdjoaa
open Go.RowKit Go.Proofs.Kv

/-! ### more special: the program's -/
def moreB (a b : List Int) : Bool := hB b a && !hB a b
def sp (P : Par) (i : Nat) : List Int := (P.ents.getD i E0).spec
set_option maxRecDepth 100000 in
set_option maxHeartbeats 4000000 in
theorem ceisMore_calls (v : Value) (P : Par) (i j : Nat) (w : World) (h : ParAt w v P) (hv : validP P = 0) (hi : i < P.ents.length) (hj : j < P.ents.length) :
    Calls Try.prog 85 #[v, .int .i64 (i : Int), .int .i64 (j : Int)] w fun e w' => e = .returned (.bool (moreB (sp P i) (sp P j))) ∧ Below w.heap.size w w' := by
  obtain ⟨-, -, h10, hent⟩ := validP_ok hv
  obtain ⟨a1, n1, c1, a2, n2, c2, rfl, h1, h2⟩ := h
  have li := (specB_ok (hent i hi).1).1; have lj := (specB_ok (hent j hj).1).1
  have hi' : i < n2 := by rw [← h2.len]; exact hi
  have hj' : j < n2 := by rw [← h2.len]; exact hj
  have h10' : n2 ≤ 10 := by rw [← h2.len]; exact h10
  obtain ⟨w1, hw1⟩ : ∃ w1, w.alloc (.cells #[.slice a1 n1 c1, .slice a2 n2 c2] 25) = w1 := ⟨_, rfl⟩
  have cb : Below w.heap.size w w1 := by rw [← hw1]; exact below_alloc _ _
  have q0 : w1.cell? ⟨w.heap.size, 0, none⟩ = some (.slice a1 n1 c1) := by rw [← hw1]; exact cells_alloc _ _ _ 0
  have q1 : w1.cell? ⟨w.heap.size, 1, none⟩ = some (.slice a2 n2 c2) := by rw [← hw1]; exact cells_alloc _ _ _ 1
  have H2 := h2.below cb (Nat.le_refl _)
  obtain ⟨b, off, a3, n3, c3, rfl, -, k0, k1, hri⟩ := H2.cells i hi'
  obtain ⟨b', off', a4, n4, c4, hbe, -, l0, l1, hrj⟩ := H2.cells j hj'
  injection hbe with hbe
  injection hbe with e1 e2
  subst e1 e2
  have hl3 : n3 = P.sizes.length := by rw [← hri.len, li]
  have hl4 : n4 = P.sizes.length := by rw [← hrj.len, lj]
  have HA := hid_ (fun q => ceWithin_calls a3 n3 c3 (sp P i) a4 n4 c4 (sp P j) (w1.drewN q) (hri.drewN q) (hrj.drewN q) (by omega))
  have HB := hid_ (fun q => ceWithin_calls a4 n4 c4 (sp P j) a3 n3 c3 (sp P i) (w1.drewN q) (hrj.drewN q) (hri.drewN q) (by omega))
  have HM : Hid (moreB (sp P i) (sp P j) = (hB (sp P j) (sp P i) && !hB (sp P i) (sp P j))) := hid_ rfl
  have Hc1 := hid_ cb
  clear li lj hl3 hl4 hri hrj H2 h1 h2 cb hent hv h10 k1 l1 hi hj
  generalize hB (sp P j) (sp P i) = x at *
  generalize hB (sp P i) (sp P j) = y at *
  cases x with
  | false =>
    have Hf : Hid (moreB (sp P i) (sp P j) = false) := hid_ (by rw [HM.out]; rfl)
    go_enter Try.func85, Try.ntmps85
    go_wp2_with fail
    go_quiet (fail)
    go_wp2_with (go_at_call 120; (with_reducible refine (HA.out _).mono ?_); rintro e w3 ⟨rfl, rfl⟩)
    go_ret
    exact ⟨retB Hf.out, Hc1.out.trans (below_drewN (Below.refl _ _) _)⟩
  | true =>
    have Hf : Hid (moreB (sp P i) (sp P j) = !y) := hid_ (by rw [HM.out]; rfl)
    go_enter Try.func85, Try.ntmps85
    go_wp2_with fail
    go_quiet (fail)
    go_wp2_with (first
      | (go_at_call 120; (with_reducible refine (HA.out _).mono ?_); rintro e w3 ⟨rfl, rfl⟩)
      | (go_at_call 120; (with_reducible refine (HB.out _).mono ?_); rintro e w3 ⟨rfl, rfl⟩))
    go_ret
    exact ⟨retB Hf.out, Hc1.out.trans (below_drewN (Below.refl _ _) _)⟩
end Go.Proofs.Ytdnlpikfibdjoaa
namespace Go.Proofs.Ytdnlpikfibdjoaa
open Go.RowKit Go.Proofs.Kv

/-! ### IsMore of the program -/
theorem ints_two (w : World) (x y : Int) (E : TypeId) : IntsAt (w.alloc (.cells #[.int .i64 x, .int .i64 y] E)) (some ⟨w.heap.size, 0, none⟩) 2 2 [x, y] :=
  ⟨rfl, Nat.le_refl _, by omega, fun i hi => ⟨w.heap.size, 0, rfl, by simp, by
    rcases (show i = 0 ∨ i = 1 by omega) with rfl | rfl
    · exact cells_alloc _ _ _ 0
    · exact cells_alloc _ _ _ 1⟩⟩
theorem isNo_ok {P : Par} {i : Int} (h : isNo P i = true) : ∃ k : Nat, i = (k : Int) ∧ k < P.ents.length := by
  have h' : 0 ≤ i ∧ i ≤ (P.ents.length : Int) - 1 := by simpa [isNo, Within] using h
  exact ⟨i.toNat, (Int.toNat_of_nonneg h'.1).symm, by omega⟩
theorem errN_ok {P : Par} {i j : Int} (h : errN P [i, j] = 0) : validP P = 0 ∧ isNo P i = true ∧ isNo P j = true := by
  rw [errN2] at h
  split at h
  · rename_i hv
    refine ⟨hv, ?_⟩
    cases hi : isNo P i <;> cases hj : isNo P j <;> simp [hi, hj] at h ⊢
  · rename_i hv; exact absurd h hv
def resMore (P : Par) (i j : Int) : Bool := if errN P [i, j] = 0 then moreB (sp P i.toNat) (sp P j.toNat) else false
set_option maxRecDepth 100000 in
set_option maxHeartbeats 4000000 in
theorem ceIsMore_calls (v : Value) (P : Par) (i j : Int) (w : World) (h : ParAt w v P) :
    Calls Try.prog 36 #[v, .int .i64 i, .int .i64 j] w fun e w' => e = .returned (.tuple #[.bool (resMore P i j), .int .i64 (errN P [i, j])]) ∧ Below w.heap.size w w' := by
  have HP := hid_ h
  obtain ⟨a1, n1, c1, a2, n2, c2, rfl, h1, h2⟩ := h
  obtain ⟨w1, hw1⟩ : ∃ w1, w.alloc (.cells #[.slice a1 n1 c1, .slice a2 n2 c2] 25) = w1 := ⟨_, rfl⟩
  have cb : Below w.heap.size w w1 := by rw [← hw1]; exact below_alloc _ _
  have q0 : w1.cell? ⟨w.heap.size, 0, none⟩ = some (.slice a1 n1 c1) := by rw [← hw1]; exact cells_alloc _ _ _ 0
  have q1 : w1.cell? ⟨w.heap.size, 1, none⟩ = some (.slice a2 n2 c2) := by rw [← hw1]; exact cells_alloc _ _ _ 1
  have HP1 := hid_ (HP.out.below cb (Nat.le_refl _)); have Hc1 := hid_ cb
  have HE := hid_ (fun T => validateEntries_calls _ P _ 2 2 [i, j] (w1.alloc (.cells #[.int .i64 i, .int .i64 j] T)) (HP1.out.below (below_alloc _ _) (Nat.le_refl _)) (ints_two w1 i j T))
  clear h1 h2 cb
  by_cases he : errN P [i, j] = 0
  · have Hf : Hid (resMore P i j = moreB (sp P i.toNat) (sp P j.toNat)) := hid_ (if_pos he)
    obtain ⟨hv, hi, hj⟩ := errN_ok he
    obtain ⟨i', rfl, hi'⟩ := isNo_ok hi
    obtain ⟨j', rfl, hj'⟩ := isNo_ok hj
    have HM := hid_ (fun W (hW : Below w1.heap.size w1 W) => ceisMore_calls _ P i' j' W (HP1.out.below hW (Nat.le_refl _)) hv hi' hj')
    rw [he] at HE ⊢
    have Hf2 : Hid (resMore P i' j' = moreB (sp P i') (sp P j')) := hid_ (by rw [Hf.out, Int.toNat_natCast, Int.toNat_natCast])
    rw [Hf2.out]
    generalize moreB (sp P i') (sp P j') = z at *
    clear he hv hi hj Hf
    go_enter Try.func36, Try.ntmps36
    go_wp2_with (first
      | (go_at_call 62; (with_reducible refine (HE.out _).mono ?_); rintro e w2 ⟨rfl, hb2⟩; have hb3 := (below_alloc w1 (.cells #[.int .i64 (i' : Int), .int .i64 (j' : Int)] 3)).trans (hb2.mono (below_alloc w1 (.cells #[.int .i64 (i' : Int), .int .i64 (j' : Int)] 3)).size); have q0b := cell_below q0 hb3; have q1b := cell_below q1 hb3)
      | (go_at_call 85; (with_reducible refine (HM.out _ hb3).mono ?_); rintro e w4 ⟨rfl, hb4⟩))
    go_ret2
    exact ⟨rfl, Hc1.out.trans ((hb3.trans (hb4.mono hb3.size)).mono Hc1.out.size)⟩
  · have Hf : Hid (resMore P i j = false) := hid_ (if_neg he)
    rw [Hf.out]
    have hq : (errN P [i, j] != 0) = true := by simpa using he
    generalize errN P [i, j] = x at *
    clear he
    go_enter Try.func36, Try.ntmps36
    go_wp2_with (go_at_call 62; (with_reducible refine (HE.out _).mono ?_); rintro e w2 ⟨rfl, hb2⟩; have hb3 := (below_alloc w1 (.cells #[.int .i64 i, .int .i64 j] 3)).trans (hb2.mono (below_alloc w1 (.cells #[.int .i64 i, .int .i64 j] 3)).size))
    go_ret2
    exact ⟨rfl, Hc1.out.trans (hb3.mono Hc1.out.size)⟩
end Go.Proofs.Ytdnlpikfibdjoaa
