import Derived.Test.YtahknodnjjmagaaZx
namespace Go.Proofs.Ytahknodnjjmagaa
open Go.RowKit Go.Proofs.Kv Go
attribute [local go_sem] Oper.semAt_some

/-! ### the iterator of all cells -/
def YC (sizes : List Int) (B k : Nat) (A : World) (v : Value) : Prop := B < A.heap.size ∧ A.ownsRow (B + 1) 3 1 v sizes.length (((cellsL sizes).getD k []).map (Value.int .i64))
set_option maxRecDepth 100000 in
set_option maxHeartbeats 2000000 in
theorem cells_iter (P : Par) (sa : Option Addr) (n cs Bn : Nat) (hv : validP P = 0) (hn : P.sizes.length = n) (m : Nat) :
    SeqNew Fence.wide m Try.prog 112 #[.pointer (some ⟨Bn, 0, none⟩)] (YC P.sizes) (cellsL P.sizes).length (fun W => W.cell? ⟨Bn, 0, none⟩ = some (.slice sa n cs) ∧ IntsAt W sa n cs P.sizes) := by
  intro l J Jx W hG hJ hY h0
  obtain ⟨hbn, hS0⟩ := hG _ _ h0
  obtain ⟨hchain, hfirst, h27, -⟩ := cells_chain hv
  obtain ⟨hok, hnext, hlast, hpos⟩ := chainC_at hchain
  have hn3 : n ≤ 3 := by rw [← hn]; exact (validP_ok hv).1.2
  have Hd : Hid (∀ b off, 0 < n → sa = some ⟨b, off, none⟩ → b ≠ W.heap.size) := hid_ (fun b off h0 ha => by
    obtain ⟨b', off', ha', hb', -⟩ := hS0.cells 0 h0
    rw [ha] at ha'
    injection ha' with ha'; injection ha' with e1 e2
    omega)
  have HB : Hid (∀ k, k < (cellsL P.sizes).length → ∀ j, j < n → (2 ≤ P.sizes.getD j 0 ∧ P.sizes.getD j 0 ≤ 3) ∧ 0 ≤ ((cellsL P.sizes).getD k []).getD j 0 ∧ ((cellsL P.sizes).getD k []).getD j 0 ≤ 2) := hid_ (fun k hk j hj => by
    have := List.any_eq_false.1 (validP_ok hv).2.1 _ (getD_mem (show j < P.sizes.length by omega))
    simp [okSize, Within] at this
    have h1 : 2 ≤ P.sizes.getD j 0 ∧ P.sizes.getD j 0 ≤ 3 := this
    obtain ⟨h2, h3⟩ := specB_ok (hok k hk)
    have := h3 j (by omega)
    exact ⟨h1, this.1, by omega⟩)
  have HLe : Hid (∀ k, k < (cellsL P.sizes).length → ((cellsL P.sizes).getD k []).length = n) := hid_ (fun k hk => by rw [(specB_ok (hok k hk)).1, hn])
  have hmk : ∀ W' : World, (Instr.makeSlice 22 (.int .i64 (n : Int)) (.int .i64 (n : Int))).run Try.prog W' = .ok (.slice (some ⟨W'.heap.size, 0, none⟩) n n) (W'.alloc (.cells (madeCells #[.int .i64 0] n) 3)) := fun W' => by
    obtain ⟨i0, hi0, hz0, hz1, hz2⟩ := info_parts Try.infoInt
    have := run_make (P := Try.prog) W' 22 3 i0 (.int .i64 0) Try.underlying22 hi0 hz0 .i64 .i64 n n (by omega) (by omega) (by rw [hz2]; omega) (by omega)
    simpa [hz1, Value.cells] using this
  have Hnext : Hid (∀ k, k + 1 < (cellsL P.sizes).length → advC P.sizes n ((cellsL P.sizes).getD k []) = some ((cellsL P.sizes).getD (k + 1) [])) := hid_ (fun k hk => by rw [← hn]; exact hnext k hk)
  have Hlast : Hid (advC P.sizes n ((cellsL P.sizes).getD ((cellsL P.sizes).length - 1) []) = none) := hid_ (by rw [← hn]; exact hlast)
  have Hpos := hid_ hpos
  have HY : Hid (∀ k A v, J k A → k < (cellsL P.sizes).length → W.heap.size < A.heap.size → A.ownsRow (W.heap.size + 1) 3 1 v n (((cellsL P.sizes).getD k []).map (Value.int .i64)) → YieldAt Fence.wide (m - 1) Try.prog l #[v] A fun e A' =>
      (e = .returned (.bool true) ∧ J (k + 1) A' ∧ A.heap.size ≤ A'.heap.size ∧ A'.heap[W.heap.size]? = A.heap[W.heap.size]?) ∨ (e = .returned (.bool false) ∧ Jx (k + 1) A')) := hid_ (fun k A v hj hk hs ho => hY k A v hj hk ⟨hs, by rw [hn]; exact ho⟩)
  have HJ := hid_ hJ
  have HG := hid_ hG
  have HJ1 : Hid (J 0 (W.alloc (.cells (madeCells #[.int .i64 0] n) 3))) := hid_ (hJ 0 _ _ h0 (World.grownBy_alloc W _ _))
  have HR1 : Hid (RowL (W.alloc (.cells (madeCells #[.int .i64 0] n) 3)) W.heap.size ((cellsL P.sizes).getD 0 [])) := hid_ (by
    have h := World.rowIs_made W (.int .i64 0) n 3
    unfold RowL
    rw [hfirst, List.length_map, hn]
    refine h.congr fun i hi => ?_
    simp [List.getD, hn, hi])
  clear hY hJ hG hchain hfirst hok hnext hlast hpos
  generalize hN : (cellsL P.sizes).length = N at *
  generalize cellsL P.sizes = L at *
  clear hN h0
  refine callsIn_of_wp Try.func112 rfl trivial ?_ rfl
  simp only [Try.ntmps112, List.size_toArray, List.length_cons, List.length_nil, Nat.reduceAdd, Nat.reduceSub, Array.replicate_succ, Array.replicate_zero, List.push_toArray, List.append_toArray, List.nil_append, List.cons_append]
  gi_wp2
  gi_loopg [4] N (fun g b wr => ∃ j : Nat, j ≤ N ∧ g = N - j ∧ b = .bool (decide (j < N)) ∧ (j < N → RowL wr W.heap.size (L.getD j [])) ∧ J j wr)
  case atStart => exact ⟨0, Nat.zero_le _, by omega, by rw [decide_eq_true Hpos.out], fun _ => HR1.out, HJ1.out⟩
  case round =>
    obtain ⟨j, hj, hgk, rfl, hR, hJj⟩ := hrel
    have Hgk := hid_ hgk; clear hgk
    by_cases hlt : j < N
    · rw [decide_eq_true hlt]
      have HR := hid_ (hR hlt)
      have hlen := HLe.out j hlt
      have hI : IntsAt wr (some ⟨W.heap.size, 0, none⟩) n n (L.getD j []) := by
        have := RowL.ints HR.out (by rw [hlen]; omega)
        rwa [hlen] at this
      have HC := hid_ (clone_calls _ _ _ _ wr hI (by omega))
      have HWs : W.heap.size < wr.heap.size := World.rowIs.lt HR.out
      have HJj := hid_ hJj
      clear hR hJj hI
      gi_wp2
      refine ⟨trivial, fun h => absurd h (by simp [Fence.wide]), (callsIn_wide.2 HC.out).mono ?_⟩
      rintro e W1 ⟨v1, rfl, hm1⟩
      have hg1 := grown_of_below hm1.bel (some W.heap.size)
      have HJ1 := hid_ (HJ.out j _ _ HJj.out hg1)
      have hown1 := hm1.own
      rw [hlen] at hown1
      have hs1 : W.heap.size < W1.heap.size := Nat.lt_of_lt_of_le HWs hm1.bel.size
      obtain ⟨fn, tmps, assign, body, hy, hround⟩ := HY.out j W1 v1 HJ1.out hlt hs1 (own_base hown1 (by omega))
      have Hround := hid_ hround
      have HR2 : Hid (RowL W1 W.heap.size (L.getD j [])) := hid_ (World.rowIs.of_block HR.out (hm1.bel.block _ HWs))
      clear hround hm1 hown1 hg1
      gi_wp2
      refine ⟨fun h => absurd h (by simp [Fence.wide]), Hround.out.mono ?_⟩
      rintro e W3 (⟨rfl, hJ3, hs3, hB3⟩ | ⟨rfl, hJx3⟩)
      · have hRow : RowL W3 W.heap.size (L.getD j []) := World.rowIs.of_block HR2.out hB3
        obtain ⟨hb3, hS3⟩ := HG.out _ _ hJ3
        have Hadv := hid_ (advance_calls W.heap.size sa n cs P.sizes _ W3 hS3 Hd.out hRow hlen (by omega) (HB.out j hlt))
        have HJ3 := hid_ hJ3; clear hJ3 hs3 hB3 hRow hS3
        gi_wp2
        refine ⟨trivial, fun h => absurd h (by simp [Fence.wide]), (callsIn_wide.2 Hadv.out).mono ?_⟩
        rintro e W4 ⟨hg4, (⟨rfl, hn4⟩ | ⟨l', rfl, hs4, hR4⟩)⟩
        · have HJ4 := hid_ (HJ.out _ _ _ HJ3.out hg4)
          have HjN : Hid (j + 1 = N) := hid_ (by
            rcases Nat.lt_or_ge (j + 1) N with h | h
            · rw [Hnext.out j h] at hn4; cases hn4
            · omega)
          clear hn4 hg4
          gi_wp2
          gi_roundg (N - (j + 1))
          case rel => exact ⟨j + 1, by have := HjN.out; omega, rfl, by rw [decide_eq_false (by have := HjN.out; omega)], fun h => absurd h (by have := HjN.out; omega), HJ4.out⟩
          case measure => have := Hgk.out; omega
        · have HJ4 := hid_ (HJ.out _ _ _ HJ3.out hg4)
          have hjN : j + 1 < N := by
            rcases Nat.lt_or_ge (j + 1) N with h | h
            · exact h
            · have e : j = N - 1 := by omega
              rw [e, Hlast.out] at hs4; cases hs4
          have HR5 : Hid (RowL W4 W.heap.size (L.getD (j + 1) [])) := hid_ (by
            rw [Hnext.out j hjN] at hs4
            injection hs4 with hs4
            rw [hs4]; exact hR4)
          clear hs4 hR4 hg4
          gi_wp2
          gi_roundg (N - (j + 1))
          case rel => exact ⟨j + 1, by omega, rfl, by rw [decide_eq_true hjN], fun _ => HR5.out, HJ4.out⟩
          case measure => have := Hgk.out; omega
      · have HJx := hid_ hJx3; clear hJx3
        gi_wp2
        exact ⟨rfl, _, results_none rfl _ _ _, ⟨_, rfl⟩, .inr ⟨j + 1, by omega, HJx.out⟩⟩
    · obtain rfl : j = N := by omega
      rw [decide_eq_false hlt]
      have HJj := hid_ hJj
      clear hR hJj
      gi_wp2
      go_end0
      exact ⟨⟨_, rfl⟩, .inl HJj.out⟩
end Go.Proofs.Ytahknodnjjmagaa
