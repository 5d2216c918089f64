import Derived.Test.YtahknodnjjmagaaZd
namespace Go.Proofs.Ytahknodnjjmagaa
open Go.RowKit Go.Proofs.Kv

/-! ### what a valid paradigm is -/
theorem specB_ok {sizes l : List Int} {lo : Int} (h : specB sizes l lo = true) : l.length = sizes.length ∧ ∀ j, j < l.length → lo ≤ l.getD j 0 ∧ l.getD j 0 ≤ sizes.getD j 0 - 1 := by
  rw [specB, Bool.and_eq_true] at h
  refine ⟨of_decide_eq_true h.1, fun j hj => ?_⟩
  have := List.all_eq_true.1 h.2 j (List.mem_range.2 hj)
  simpa [Within] using this
theorem ent_mem {L : List Ent} {i : Nat} (h : i < L.length) : L.getD i E0 ∈ L := by
  rw [show L.getD i E0 = L[i] by simp [List.getD, List.getElem?_eq_getElem h]]
  exact List.getElem_mem h
theorem validP_ok {P : Par} (h : validP P = 0) : (1 ≤ P.sizes.length ∧ P.sizes.length ≤ 3) ∧ P.sizes.any (fun x => !okSize x) = false ∧ P.ents.length ≤ 10 ∧ ∀ i, i < P.ents.length → specB P.sizes (P.ents.getD i E0).spec (-1) = true ∧ Within (P.ents.getD i E0).form 0 9 = true := by
  unfold validP at h
  split at h
  · exact absurd h (by decide)
  · rename_i h1
    split at h
    · exact absurd h (by decide)
    · rename_i h2
      split at h
      · exact absurd h (by decide)
      · rename_i h3
        split at h
        · exact absurd h (by decide)
        · rename_i h4
          refine ⟨by omega, by simpa using h2, by omega, fun i hi => ?_⟩
          have := List.any_eq_false.1 (by simpa using h4) _ (ent_mem hi)
          rw [badEnt] at this
          simpa using this

/-! ### the entries that match a cell -/
def matK (P : Par) (l : List Int) (k : Nat) : List Int := ((List.range k).filter fun i => hB (P.ents.getD i E0).spec l).map Int.ofNat
def matL (P : Par) (l : List Int) : List Int := matK P l P.ents.length
theorem matK_hit {P : Par} {l : List Int} {k : Nat} (h : hB (P.ents.getD k E0).spec l = true) : matK P l (k + 1) = matK P l k ++ [(k : Int)] := by
  simp only [matK, List.range_succ, List.filter_append, List.map_append]
  rw [List.filter_cons_of_pos (by exact h)]; rfl
theorem matK_miss {P : Par} {l : List Int} {k : Nat} (h : hB (P.ents.getD k E0).spec l = false) : matK P l (k + 1) = matK P l k := by
  simp only [matK, List.range_succ, List.filter_append, List.map_append]
  rw [List.filter_cons_of_neg (by rw [h]; simp)]; simp
theorem matK_le (P : Par) (l : List Int) (k : Nat) : (matK P l k).length ≤ k := by
  rw [matK, List.length_map]
  exact Nat.le_trans (List.length_filter_le _ _) (by simp)
set_option maxRecDepth 100000 in
set_option maxHeartbeats 4000000 in
theorem r6matches_calls (v : Value) (P : Par) (a : Option Addr) (n c : Nat) (l : List Int) (w : World) (h : ParAt w v P) (hl : IntsAt w a n c l) (hv : validP P = 0) (hs : P.sizes.length = n) :
    Calls Try.prog 78 #[v, .slice a n c] w fun e w' => ∃ v', e = .returned v' ∧ Made 3 w w' v' (matL P l) := by
  obtain ⟨i0, hi0, hz0, hz1, hz2⟩ := info_parts Try.infoInt
  obtain ⟨-, -, h10, hent⟩ := validP_ok hv
  obtain ⟨a1, n1, c1, a2, n2, c2, rfl, h1, h2⟩ := h
  have h10' : n2 ≤ 10 := by rw [← h2.len]; exact h10
  obtain ⟨w1, hw1⟩ : ∃ w1, w.alloc (.cells #[.slice a1 n1 c1, .slice a2 n2 c2] 25) = w1 := ⟨_, rfl⟩
  have cb : Below w.heap.size w w1 := by rw [← hw1]; exact below_alloc _ _
  have q0 : w1.cell? ⟨w.heap.size, 0, none⟩ = some (.slice a1 n1 c1) := by rw [← hw1]; exact cells_alloc _ _ _ 0
  have q1 : w1.cell? ⟨w.heap.size, 1, none⟩ = some (.slice a2 n2 c2) := by rw [← hw1]; exact cells_alloc _ _ _ 1
  have HE := hid_ (fun k (hk : k < n2) => specB_ok (hent k (by rw [h2.len]; exact hk)).1)
  have HL := hid_ (hl.below cb (Nat.le_refl _)); have H2 := hid_ (h2.below cb (Nat.le_refl _)); have Hc1 := hid_ cb
  have HM : Hid (matL P l = matK P l n2) := hid_ (by rw [matL, h2.len])
  have Hs := hid_ hs
  clear h1 h2 hl cb hent hv h10 hs
  go_enter Try.func78, Try.ntmps78
  go_wp2
  go_loopw [5, 6] (fun v i wr => ∃ k : Nat, k ≤ n2 ∧ i = .int .i64 k ∧ wr.ownsRow w1.heap.size 3 1 v (matK P l k).length ((matK P l k).map (Value.int .i64)) ∧ Below w1.heap.size w1 wr) (fun _ i _ => n2 - (intOf i).toNat)
  case atStart => exact ⟨0, Nat.zero_le _, rfl, World.ownsRow_nil _ _ _ _, Below.refl _ _⟩
  case round =>
    obtain ⟨k, hk, rfl, hown, hb⟩ := hrel
    have hsz := hb.size
    have q0r := cell_below q0 hb; have q1r := cell_below q1 hb
    by_cases hlt : k < n2
    · obtain ⟨b, off, a3, n3, c3, rfl, -, k0, k1, hi⟩ := (H2.out.below hb (Nat.le_refl _)).cells k hlt
      obtain ⟨e1, e2⟩ := HE.out k hlt
      have hle := matK_le P l k
      have hs1 : (matK P l k).length + 1 ≤ 1000000 := by omega
      have Hhit := hid_ (@matK_hit P l k); have Hmiss := hid_ (@matK_miss P l k)
      have e3 : n3 = n := by rw [← hi.len, e1, Hs.out]
      have Hc := hid_ (holds_calls a n c l a3 n3 c3 _ wr (HL.out.below hb (Nat.le_refl _)) hi (by omega) (fun j hj => (e2 j (by rw [hi.len]; exact hj)).1))
      clear e1 e2 e3 hi q0 q1 k1
      generalize hhv : hB (P.ents.getD k E0).spec l = hv at *
      cases hv with
      | true =>
        have Hm := hid_ (Hhit.out rfl)
        clear hhv
        go_wp2_with (first
          | (go_at_call 52; (with_reducible refine Hc.out.mono ?_); rintro e w5 ⟨rfl, q, rfl⟩)
          | (at_builtin; refine wpList_append_ints _ rfl (.tmp 22) (.tmp 24) _ rfl w1.heap.size 3 i0 Try.underlying22 hi0 hz0 hz1 hz2 _ _ _ rfl ((own_drewN hown q).alloc _) _ _ _ _ rfl (IntsAt.one _ _ _) hs1 (le_alloc (by simpa using hsz)) ?_; intro v' w6 hown1 hg1 hat1))
        go_roundw
        case rel => exact ⟨k + 1, by omega, by go_num, by rw [Hm.out]; simpa using hown1, below_app (below_drewN hb q) (by simpa using hsz) (own_drewN hown q) hg1⟩
        case measure => simp [intOf]; omega
      | false =>
        have Hm := hid_ (Hmiss.out rfl)
        clear hhv
        go_wp2_with (go_at_call 52; (with_reducible refine Hc.out.mono ?_); rintro e w5 ⟨rfl, q, rfl⟩)
        go_roundw
        case rel => exact ⟨k + 1, by omega, by go_num, by rw [Hm.out]; exact own_drewN hown q, below_drewN hb q⟩
        case measure => simp [intOf]; omega
    · obtain rfl : n2 = k := by omega
      go_wp2
      go_ret
      exact ⟨_, rfl, by rw [HM.out]; exact own_base hown Hc1.out.size, Hc1.out.trans (hb.mono Hc1.out.size)⟩
end Go.Proofs.Ytahknodnjjmagaa
