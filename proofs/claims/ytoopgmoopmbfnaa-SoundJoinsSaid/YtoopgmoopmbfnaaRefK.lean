import Derived.Test.YtoopgmoopmbfnaaRefJ
namespace Go.Proofs.Ytoopgmoopmbfnaa
open Go.RowKit Go.Proofs.Kv Go.Proofs.Snd

theorem Try.infoInts : (Try.prog.info? 23).map (fun i => (i.zero, i.size, i.bytes)) = some (some (.slice none 0 0), 1, 24) := by kernel_rfl

/-! ### Insert -/
def insAt (L : List (List Int)) (x : List Int) : Nat := (L.takeWhile fun y => beforeL y x).length
def insertL (L : List (List Int)) (x : List Int) : List (List Int) := if insAt L x < L.length ∧ L.getD (insAt L x) [] = x then L else (L.take (insAt L x) ++ [x]) ++ L.drop (insAt L x)
theorem insertL_le (L : List (List Int)) (x : List Int) : (insertL L x).length ≤ L.length + 1 := by
  unfold insertL
  split
  · omega
  · simp only [List.length_append, List.length_take, List.length_drop, List.length_singleton]; omega
theorem insAt_eq {L : List (List Int)} {x : List Int} {k : Nat} (hk : k ≤ L.length) (h : ∀ j, j < k → beforeL (L.getD j []) x = true) (hs : k < L.length → beforeL (L.getD k []) x = false) : insAt L x = k := by
  unfold insAt
  induction L generalizing k with
  | nil => simp at hk; simp [hk]
  | cons y L ih =>
    cases k with
    | zero =>
      have := hs (by simp)
      simp [List.getD] at this
      rw [List.takeWhile_cons, this]; rfl
    | succ k =>
      have h0 := h 0 (by omega)
      simp [List.getD] at h0
      rw [List.takeWhile_cons, h0]
      simp only [if_true, List.length_cons, Nat.add_right_cancel_iff]
      exact ih (by simpa using hk) (fun j hj => by simpa [List.getD] using h (j + 1) (by omega)) (fun hlt => by simpa [List.getD] using hs (by simpa using hlt))

set_option maxRecDepth 100000 in
set_option maxHeartbeats 400000 in
theorem insert_calls (v : Value) (L : List (List Int)) (a' : Option Addr) (n' c' : Nat) (x : List Int) (w : World) (h : OwnL 23 w 0 v L) (h' : IntsAt w a' n' c' x) (hs : L.length ≤ 10000) :
    Calls Try.prog 31 #[v, .slice a' n' c'] w fun e w' => ∃ v', e = .returned v' ∧ OwnL 23 w' 0 v' (insertL L x) ∧ Below w.heap.size w w' := by
  obtain ⟨i0, hi0, hz0, hz1, hz2⟩ := info_parts Try.infoInts
  have hx' : ∀ v : Value, (∀ k, v.ownBlock = some k → w.heap.size ≤ k) → ∀ b off, 0 < n' → a' = some ⟨b, off, none⟩ → v.ownBlock ≠ some b := by
    intro v hv b off hn ha e
    obtain ⟨b1, off1, ha1, hb1, _⟩ := h'.cells 0 hn
    rw [ha] at ha1
    injection ha1 with ha1
    injection ha1 with s1 s2
    have := hv b e
    omega
  have Hx' := hid_ hx'; clear hx'
  obtain ⟨vs, hown, hvs⟩ := h.has
  rcases hown.2 with ⟨rfl, h0⟩ | ⟨g, cap, cur, rfl, _, hg, hnc, hm, _⟩
  · have hL : L = [] := List.eq_nil_of_length_eq_zero h0
    subst hL
    have Hres : Hid (insertL [] x = [x]) := hid_ rfl
    clear hown hvs h0
    go_enter Try.func31, Try.ntmps31
    go_wp2
    go_loop [5] (fun i => i = .int .i64 0) (fun _ => 0)
    case atStart => rfl
    case round =>
      subst hrel
      go_wp2_with (first
        | (at_builtin; refine wpList_append_lists _ rfl (.tmp 43) (.tmp 46) _ rfl w.heap.size 23 i0 Try.underlying22 hi0 hz0 hz1 hz2 v1 ([] ++ [x]) rfl hown1 none 0 0 [] rfl (ListsAt.nil _ _ _ (by omega)) (by intro y; simp) (by simp) (hb1.size) ?_; intro v2 w2 hown2 hg2 hat2)
        | (at_builtin; refine wpList_push_list _ rfl (.tmp 39) (.tmp 41) _ rfl w.heap.size 23 i0 Try.underlying22 hi0 hz0 hz1 hz2 (.slice none 0 0) [] rfl (OwnL.nil _ _ _) _ _ _ x _ rfl h' (by simp [Value.ownBlock]) (by simp) (Nat.le_refl _) ?_; intro v1 w1 hown1 hg1 hat1; have hb1 : Below w.heap.size w w1 := belowL_app (Below.refl _ _) (Nat.le_refl _) (OwnL.nil 23 _ _) hg1))
      go_ret
      exact ⟨v2, rfl, by rw [Hres.out]; exact hown2.base (Nat.zero_le _), belowL_app0 hb1 hb1.size hown1 hg2⟩
  · have hA : ListsAt w (some ⟨g, 0, none⟩) L.length cap L := by
      obtain ⟨a1, c1, e, hA⟩ := h.at_
      injection e with e1 e2 e3
      subst e1; subst e3; exact hA
    have hn : L.length ≤ 9223372036854775807 := Nat.le_trans hA.le hA.small
    clear hown hvs
    generalize hLn : L.length = n at hA hs hnc h hn
    have HLn := hid_ hLn; clear hLn
    go_enter Try.func31, Try.ntmps31
    go_wp2
    go_loopw [5] (fun i wr => ∃ k q : Nat, k ≤ n ∧ i = .int .i64 k ∧ wr = w.drewN q ∧ ∀ j, j < k → beforeL (L.getD j []) x = true) (fun i _ => n - (intOf i).toNat)
    case atStart => exact ⟨0, 0, Nat.zero_le _, rfl, rfl, fun _ h => absurd h (by omega)⟩
    case round =>
      obtain ⟨k, q, hk, rfl, hq, hall⟩ := hrel
      have Hq := hid_ hq; clear hq
      have hI : ListsAt wr (some ⟨g, 0, none⟩) n cap L := by rw [Hq.out]; exact hA.drewN q
      have hI' : IntsAt wr a' n' c' x := by rw [Hq.out]; exact h'.drewN q
      have Hall := hid_ hall; clear hall
      have Hbw : Hid (Below w.heap.size w wr) := hid_ (by rw [Hq.out]; exact below_drewN (Below.refl _ _) q)
      have hO : OwnL 23 wr 0 (.slice (some ⟨g, 0, none⟩) n cap) L := by rw [Hq.out]; exact h.drewN q
      have HO := hid_ hO; clear hO
      have hszw : wr.heap.size = w.heap.size := by rw [Hq.out]; rfl
      have Hsz := hid_ hszw; clear hszw
      -- what is done once the place is found
      by_cases hlt : k < n
      · obtain ⟨b, off, a1, n1, c1, e, hb, hcell, hrow⟩ := hI.cells k hlt
        injection e with e; injection e with e1 e2
        subst e1; subst e2
        simp only [Nat.zero_add] at hcell
        generalize hy : L.getD k [] = y at hrow
        have Hy := hid_ hy; clear hy
        cases hbf : beforeL y x with
        | true =>
          go_wp2_with (go_at_call 74; refine (before_calls _ _ _ _ _ _ _ _ _ hrow hI').mono ?_; rintro e w' ⟨rfl, q', rfl⟩)
          go_roundw
          case rel => exact ⟨k + 1, _, by omega, by go_num, by rw [Hq.out, drewN2], lt_snoc Hall.out (by rw [Hy.out]; exact hbf)⟩
          case measure => simp [intOf]; omega
        | false =>
          have Hat : Hid (insAt L x = k) := hid_ (insAt_eq (by rw [HLn.out]; omega) Hall.out fun _ => by rw [Hy.out]; exact hbf)
          cases hsm : Same y x with
          | true =>
            have Hres : Hid (insertL L x = L) := hid_ (by
              rw [insertL, Hat.out, if_pos]
              exact ⟨by rw [HLn.out]; exact hlt, by rw [Hy.out]; simpa [Same] using hsm⟩)
            go_wp2_with (first
        | (go_at_call 74; refine (before_calls _ _ _ _ _ _ _ _ _ hrow hI').mono ?_; rintro e w' ⟨rfl, q', rfl⟩)
              | (go_at_call 41; refine (same_calls _ _ _ _ _ _ _ _ _ (hrow.drewN _) (hI'.drewN _)).mono ?_; rintro e w' ⟨rfl, q'', rfl⟩))
            go_ret
            exact ⟨_, rfl, by rw [Hres.out]; exact HO.out.drewN _, below_drewN Hbw.out _⟩
          | false =>
            have Hres : Hid (insertL L x = (L.take k ++ [x]) ++ L.drop k) := hid_ (by
              rw [insertL, Hat.out, if_neg]
              intro hh
              have : y = x := by rw [← Hy.out]; exact hh.2
              simp [Same, this] at hsm)
            have htk := ListsAt.take hA (k := k) (by omega)
            have hdk := ListsAt.drop hA (k := k) (by omega)
            simp only [Nat.zero_add] at hdk
            have hck : ¬ cap = k := by omega
            have hlen : (L.take k).length = k := by rw [List.length_take, HLn.out]; omega
            have Hlen := hid_ hlen; clear hlen
            generalize L.take k = T at htk Hres Hlen
            generalize L.drop k = D at hdk Hres
            have hT1 : ([] ++ T).length + 1 ≤ 1000000 := by have := Hlen.out; simp; omega
            have hT2 : (([] ++ T) ++ [x]).length + (n - k) ≤ 1000000 := by have := Hlen.out; simp; omega
            have hT0 : ([] : List (List Int)).length + k ≤ 1000000 := by simp; omega
            go_wp2_with (first
              | (go_at_call 74; refine (before_calls _ _ _ _ _ _ _ _ _ hrow hI').mono ?_; rintro e w' ⟨rfl, q', rfl⟩)
              | (go_at_call 41; refine (same_calls _ _ _ _ _ _ _ _ _ (hrow.drewN _) (hI'.drewN _)).mono ?_; rintro e w' ⟨rfl, q'', rfl⟩
                 have hb0 : Below w.heap.size w (wr.drewN (q' + q'')) := below_drewN Hbw.out _)
              | (at_builtin; refine wpList_append_lists _ rfl (.tmp 34) (.tmp 37) _ rfl w.heap.size 23 i0 Try.underlying22 hi0 hz0 hz1 hz2 (.slice none 0 0) [] rfl (OwnL.nil _ _ _) _ _ _ T rfl (htk.below hb0 (Nat.le_refl _)) (htk.inner hb0 (Nat.le_refl _) (by simp [Value.ownBlock])) hT0 hb0.size ?_; intro v1 w1 hown1 hg1 hat1
                 have hb1 : Below w.heap.size w w1 := belowL_app0 hb0 hb0.size (OwnL.nil 23 _ _) hg1)
              | (at_builtin; refine wpList_push_list _ rfl (.tmp 39) (.tmp 41) _ rfl w.heap.size 23 i0 Try.underlying22 hi0 hz0 hz1 hz2 v1 ([] ++ T) rfl hown1 _ _ _ x _ rfl (h'.below hb1 (Nat.le_refl _)) (Hx'.out v1 fun j hj => (hown1.lt j hj).1) hT1 hb1.size ?_; intro v2 w2 hown2 hg2 hat2
                 have hb2 : Below w.heap.size w w2 := belowL_app hb1 hb1.size hown1 hg2)
              | (at_builtin; refine wpList_append_lists _ rfl (.tmp 43) (.tmp 46) _ rfl w.heap.size 23 i0 Try.underlying22 hi0 hz0 hz1 hz2 v2 (([] ++ T) ++ [x]) rfl hown2 _ _ _ D rfl (hdk.below hb2 (Nat.le_refl _)) (hdk.inner hb2 (Nat.le_refl _) fun j hj => (hown2.lt j hj).1) hT2 hb2.size ?_; intro v3 w3 hown3 hg3 hat3
                 have hb3 : Below w.heap.size w w3 := belowL_app0 hb2 hb2.size hown2 hg3))
            go_ret
            exact ⟨v3, rfl, by rw [Hres.out]; exact hown3.base (Nat.zero_le _), hb3⟩
      · obtain rfl : k = n := by omega
        have Hat : Hid (insAt L x = k) := hid_ (insAt_eq (by rw [HLn.out]; omega) Hall.out fun hh => by rw [HLn.out] at hh; omega)
        have Hres : Hid (insertL L x = (L ++ [x]) ++ []) := hid_ (by
          rw [insertL, Hat.out, if_neg (by rw [HLn.out]; omega), List.take_of_length_le (by rw [HLn.out]; omega), List.drop_of_length_le (by rw [HLn.out]; omega)])
        have hT1 : ([] ++ L).length + 1 ≤ 1000000 := by have := HLn.out; simp; omega
        have hT2 : (([] ++ L) ++ [x]).length + 0 ≤ 1000000 := by have := HLn.out; simp; omega
        have hT0 : ([] : List (List Int)).length + k ≤ 1000000 := by simp; omega
        have hb0 := Hbw.out
        by_cases hck : cap = k
        · subst hck
          have hdk : ∀ W, ListsAt W (some ⟨g, 0, none⟩) 0 0 [] := fun W => ListsAt.nil _ _ _ (by omega)
          go_wp2_with (first
            | (at_builtin; refine wpList_append_lists _ rfl (.tmp 34) (.tmp 37) _ rfl w.heap.size 23 i0 Try.underlying22 hi0 hz0 hz1 hz2 (.slice none 0 0) [] rfl (OwnL.nil _ _ _) _ _ _ L rfl (hA.below hb0 (Nat.le_refl _)) (hA.inner hb0 (Nat.le_refl _) (by simp [Value.ownBlock])) hT0 hb0.size ?_; intro v1 w1 hown1 hg1 hat1
               have hb1 : Below w.heap.size w w1 := belowL_app0 hb0 hb0.size (OwnL.nil 23 _ _) hg1)
            | (at_builtin; refine wpList_push_list _ rfl (.tmp 39) (.tmp 41) _ rfl w.heap.size 23 i0 Try.underlying22 hi0 hz0 hz1 hz2 v1 ([] ++ L) rfl hown1 _ _ _ x _ rfl (h'.below hb1 (Nat.le_refl _)) (Hx'.out v1 fun j hj => (hown1.lt j hj).1) hT1 hb1.size ?_; intro v2 w2 hown2 hg2 hat2
               have hb2 : Below w.heap.size w w2 := belowL_app hb1 hb1.size hown1 hg2)
            | (at_builtin; refine wpList_append_lists _ rfl (.tmp 43) (.tmp 46) _ rfl w.heap.size 23 i0 Try.underlying22 hi0 hz0 hz1 hz2 v2 (([] ++ L) ++ [x]) rfl hown2 _ _ _ [] rfl (hdk _) (by intro _ i _ _ _ _ hi; exact absurd hi (by omega)) hT2 hb2.size ?_; intro v3 w3 hown3 hg3 hat3
               have hb3 : Below w.heap.size w w3 := belowL_app0 hb2 hb2.size hown2 hg3))
          go_ret
          exact ⟨v3, rfl, by rw [Hres.out]; exact hown3.base (Nat.zero_le _), hb3⟩
        · have hdk : ∀ W, ListsAt W (some ⟨g, k, none⟩) 0 (cap - k) [] := fun W => ListsAt.nil _ _ _ (by have := hA.small; omega)
          go_wp2_with (first
            | (at_builtin; refine wpList_append_lists _ rfl (.tmp 34) (.tmp 37) _ rfl w.heap.size 23 i0 Try.underlying22 hi0 hz0 hz1 hz2 (.slice none 0 0) [] rfl (OwnL.nil _ _ _) _ _ _ L rfl (hA.below hb0 (Nat.le_refl _)) (hA.inner hb0 (Nat.le_refl _) (by simp [Value.ownBlock])) hT0 hb0.size ?_; intro v1 w1 hown1 hg1 hat1
               have hb1 : Below w.heap.size w w1 := belowL_app0 hb0 hb0.size (OwnL.nil 23 _ _) hg1)
            | (at_builtin; refine wpList_push_list _ rfl (.tmp 39) (.tmp 41) _ rfl w.heap.size 23 i0 Try.underlying22 hi0 hz0 hz1 hz2 v1 ([] ++ L) rfl hown1 _ _ _ x _ rfl (h'.below hb1 (Nat.le_refl _)) (Hx'.out v1 fun j hj => (hown1.lt j hj).1) hT1 hb1.size ?_; intro v2 w2 hown2 hg2 hat2
               have hb2 : Below w.heap.size w w2 := belowL_app hb1 hb1.size hown1 hg2)
            | (at_builtin; refine wpList_append_lists _ rfl (.tmp 43) (.tmp 46) _ rfl w.heap.size 23 i0 Try.underlying22 hi0 hz0 hz1 hz2 v2 (([] ++ L) ++ [x]) rfl hown2 _ _ _ [] rfl (hdk _) (by intro _ i _ _ _ _ hi; exact absurd hi (by omega)) hT2 hb2.size ?_; intro v3 w3 hown3 hg3 hat3
               have hb3 : Below w.heap.size w w3 := belowL_app0 hb2 hb2.size hown2 hg3))
          go_ret
          exact ⟨v3, rfl, by rw [Hres.out]; exact hown3.base (Nat.zero_le _), hb3⟩
end Go.Proofs.Ytoopgmoopmbfnaa
