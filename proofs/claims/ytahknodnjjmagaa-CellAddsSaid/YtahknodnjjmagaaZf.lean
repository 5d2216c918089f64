import Derived.Test.YtahknodnjjmagaaZe
namespace Go.Proofs.Ytahknodnjjmagaa
open Go.RowKit Go.Proofs.Kv

set_option maxRecDepth 100000 in
set_option maxHeartbeats 4000000 in
theorem cematches_calls (v : Value) (P : Par) (a : Option Addr) (n c : Nat) (l : List Int) (w : World) (h : ParAt w v P) (hl : IntsAt w a n c l) (hv : validP P = 0) (hs : P.sizes.length = n) :
    Calls Try.prog 76 #[v, .slice a n c] w fun e w' => ∃ v', e = .returned v' ∧ Made 3 w w' v' (matL P l) := by
  obtain ⟨i0, hi0, hz0, hz1, hz2⟩ := info_parts Try.infoInt
  obtain ⟨-, -, h10, hent⟩ := validP_ok hv
  obtain ⟨a1, n1, c1, a2, n2, c2, rfl, h1, h2⟩ := h
  have h10' : n2 ≤ 10 := by rw [← h2.len]; exact h10
  obtain ⟨w1, hw1⟩ : ∃ w1, w.alloc (.cells #[.slice a1 n1 c1, .slice a2 n2 c2] 25) = w1 := ⟨_, rfl⟩
  have cb : Below w.heap.size w w1 := by rw [← hw1]; exact below_alloc _ _
  have q0 : w1.cell? ⟨w.heap.size, 0, none⟩ = some (.slice a1 n1 c1) := by rw [← hw1]; exact cells_alloc _ _ _ 0
  have q1 : w1.cell? ⟨w.heap.size, 1, none⟩ = some (.slice a2 n2 c2) := by rw [← hw1]; exact cells_alloc _ _ _ 1
  have HE := hid_ (fun k (hk : k < n2) => specB_ok (hent k (by rw [h2.len]; exact hk)).1)
  have HL := hid_ (hl.below cb (Nat.le_refl _)); have H2 := hid_ (h2.below cb (Nat.le_refl _)); have Hc1 := hid_ cb
  have HM : Hid (matL P l = matK P l n2) := hid_ (by rw [matL, h2.len])
  have Hs := hid_ hs
  clear h1 h2 hl cb hent hv h10 hs
  go_enter Try.func76, Try.ntmps76
  go_wp2
  go_loopw [5, 11] (fun v i wr => ∃ k : Nat, k ≤ n2 ∧ i = .int .i64 k ∧ wr.ownsRow w1.heap.size 3 1 v (matK P l k).length ((matK P l k).map (Value.int .i64)) ∧ Below w1.heap.size w1 wr) (fun _ i _ => n2 - (intOf i).toNat)
  case atStart => exact ⟨0, Nat.zero_le _, rfl, World.ownsRow_nil _ _ _ _, Below.refl _ _⟩
  case round =>
    obtain ⟨k, hk, rfl, hown, hb⟩ := hrel
    have hsz := hb.size
    have q0r := cell_below q0 hb; have q1r := cell_below q1 hb
    by_cases hlt : k < n2
    · obtain ⟨b, off, a3, n3, c3, rfl, -, k0, k1, hi⟩ := (H2.out.below hb (Nat.le_refl _)).cells k hlt
      obtain ⟨e1, e2⟩ := HE.out k hlt
      have hle := matK_le P l k
      have hs1 : (matK P l k).length + 1 ≤ 1000000 := by omega
      have Hhit := hid_ (@matK_hit P l k); have Hmiss := hid_ (@matK_miss P l k)
      have e3 : n3 = n := by rw [← hi.len, e1, Hs.out]
      generalize (P.ents.getD k E0).form = fm at *
      obtain ⟨wb, hwb⟩ : ∃ wb, wr.alloc (.cells #[.slice a3 n3 c3, .int .i64 fm] 56) = wb := ⟨_, rfl⟩
      have hcb : Below wr.heap.size wr wb := by rw [← hwb]; exact below_alloc _ _
      have u0 : wb.cell? ⟨wr.heap.size, 0, none⟩ = some (.slice a3 n3 c3) := by rw [← hwb]; exact cells_alloc _ _ _ 0
      have u1 : wb.cell? ⟨wr.heap.size, 1, none⟩ = some (.int .i64 fm) := by rw [← hwb]; exact cells_alloc _ _ _ 1
      have hob := own_below hown hcb (Nat.le_refl _)
      have hszb : w1.heap.size ≤ wb.heap.size := Nat.le_trans hsz hcb.size
      have hbb := hb.trans (hcb.mono hsz)
      have Hc := hid_ (ceWithin_calls a n c l a3 n3 c3 _ wb ((HL.out.below hb (Nat.le_refl _)).below hcb (Nat.le_refl _)) (hi.below hcb (Nat.le_refl _)) (by omega))
      have Hob := hid_ hob; have Hbb := hid_ hbb
      clear e1 e2 e3 hi q0 hob hbb hown hb
      generalize hhv : hB (P.ents.getD k E0).spec l = hv at *
      cases hv with
      | true =>
        have Hm := hid_ (Hhit.out rfl)
        clear hhv
        go_wp2_with (first
          | (go_at_call 99; (with_reducible refine Hc.out.mono ?_); rintro e w5 ⟨rfl, rfl⟩)
          | (at_builtin; refine wpList_append_ints _ rfl (.tmp 20) (.tmp 22) _ rfl w1.heap.size 3 i0 Try.underlying22 hi0 hz0 hz1 hz2 _ _ _ rfl (Hob.out.alloc _) _ _ _ _ rfl (IntsAt.one _ _ _) hs1 (le_alloc hszb) ?_; intro v' w6 hown1 hg1 hat1))
        go_roundw
        case rel => exact ⟨k + 1, by omega, by go_num, by rw [Hm.out]; simpa using hown1, below_app Hbb.out hszb Hob.out hg1⟩
        case measure => simp [intOf]; omega
      | false =>
        have Hm := hid_ (Hmiss.out rfl)
        clear hhv
        go_wp2_with (go_at_call 99; (with_reducible refine Hc.out.mono ?_); rintro e w5 ⟨rfl, rfl⟩)
        go_roundw
        case rel => exact ⟨k + 1, by omega, by go_num, by rw [Hm.out]; exact Hob.out, Hbb.out⟩
        case measure => simp [intOf]; omega
    · obtain rfl : n2 = k := by omega
      go_wp2
      go_ret
      exact ⟨_, rfl, by rw [HM.out]; exact own_base hown Hc1.out.size, Hc1.out.trans (hb.mono Hc1.out.size)⟩
end Go.Proofs.Ytahknodnjjmagaa
