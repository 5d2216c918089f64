import Derived.Test.YtdhmcmkpeaoigaaYN
import Derived.Test.YtdhmcmkpeaoigaaYP
namespace Go.Proofs.Kv
open Go.RowKit Go
theorem IntsAt.dropIf {w : World} {b off n c : Nat} {l : List Int} (h : IntsAt w (some ⟨b, off, none⟩) n c l) {k : Nat} (hk : k ≤ n) : IntsAt w (if c = k then some ⟨b, off, none⟩ else some ⟨b, off + k, none⟩) (n - k) (c - k) (l.drop k) := by
  have hle := h.le
  have hs := h.small
  have hl : (l.drop k).length = n - k := by rw [List.length_drop, h.len]
  split
  · exact ⟨hl, by omega, by omega, fun i hi => absurd hi (by omega)⟩
  · refine ⟨hl, by omega, by omega, fun i hi => ?_⟩
    obtain ⟨b', off', e, hb, hc⟩ := h.cells (k + i) (by omega)
    injection e with e; injection e with e1 e2; subst e1; subst e2
    refine ⟨b, off + k, rfl, hb, ?_⟩
    rw [Nat.add_assoc, hc]
    simp [List.getD]
theorem step_push_val2 {P : Program} {ops : Array Oper} {o : Oper} {a : Act} {w : World} {K : Act → World → Prop} {Q : Exit → Act → World → Prop} {E0 : Prop} (hgd : o.guard = none) (s x : Operand) (t : TypeId)
    (ho : o.op = .call { callee := .builtin .append, args := #[s, x], argTypes := #[t, t] })
    (base : Nat) (e : TypeId) (i : TypeInfo) {z : Value} {by_ : Nat} (ht : P.underlying t = some (.slice e)) (hi : P.info? e = some i) (hz : i.zero = some z) (hzc : z.cells.size = 1) (hsize : i.size = 1) (hby : i.bytes = by_) (hb0 : by_ ≤ 24)
    (v : Value) (n : Nat) (xs : List Value) (hs : a.eval s = v) (hown : w.ownsRow base e 1 v n xs)
    (u : Value) (hu : u.oneCell' = true) (g : Nat) (hx : a.eval x = .slice (some ⟨g, 0, none⟩) 1 1) (hc : w.cell? ⟨g, 0, none⟩ = some u) (hsm : n + 1 ≤ 1000000) (hbase : base ≤ w.heap.size)
    (hK : ∀ v' w', w'.ownsRow base e 1 v' (n + 1) (xs ++ [u]) → w.grownBy w' v.ownBlock → K (a.put o.dst v') w') :
    if Region.wanted o (yielded ops a.tmps) = true then Oper.wp P o a w K Q else E0 := by
  have hw : Region.wanted o (yielded ops a.tmps) = true := by simp [Region.wanted, hgd]
  rw [if_pos hw]
  have hm : (n + 1) * by_ ≤ 1000000 * 24 := Nat.mul_le_mul hsm hb0
  have hcells : ∀ j u', [u][j]? = some u' → w.cell? ((⟨g, 0, none⟩ : Addr).add j) = some u' := by
    intro j u' hu'
    have hj : j = 0 := by
      rcases Nat.eq_zero_or_pos j with h | h
      · exact h
      · rw [List.getElem?_eq_none (by simp; omega)] at hu'; cases hu'
    subst hj
    simp at hu'; subst hu'
    exact hc
  obtain ⟨v', w', hrun, h2, h3, _, h5⟩ := run_append_own_at (P := P) w base t o.type e i z 1 by_ ht hi hz hsize hby hzc (by omega) v n xs hown ⟨g, 0, none⟩ 1 1 [u] (by simp) hcells
    (by intro u' hu'; rw [List.mem_singleton] at hu'; subst hu'; exact hu) (by unfold maxLen; omega) (by omega) hbase
  unfold Oper.wp
  simp [execOp, ho, resolve, invoke, builtin, hs, hx, hrun, Result.andThen]
  exact hK _ _ h2 h3
end Go.Proofs.Kv
namespace Go.Proofs.Ytdhmcmkpeaoigaa
open Go.RowKit Go.Proofs.Kv Go

/-! ### Without of the document -/
set_option maxRecDepth 100000 in
set_option maxHeartbeats 4000000 in
theorem r7Without_calls (a : Option Addr) (n c : Nat) (T : List (List Int)) (p : Int) (w : World) (h : ListsAt w a n c T) :
    Calls Try.prog 56 #[.slice a n c, .int .i64 p] w fun e w' => ∃ v us, e = .returned (.tuple #[v, .int .i64 (woutE T p)]) ∧ OwnRw 28 3 w' w.heap.size v us (resWout T p) ∧ Below w.heap.size w w' := by
  have HV := hid_ (placed_calls a n c T p w h)
  have HR : Hid (resWout T p = if woutE T p = 0 then T.map (fun r => r.eraseIdx p.toNat) else []) := hid_ rfl
  have HE : Hid (woutE T p = if placesE T [p] = 0 then (if n0 T = 1 then 1 else 0) else placesE T [p]) := hid_ rfl
  have hlen := h.len
  generalize resWout T p = R at *
  generalize woutE T p = E at *
  by_cases he : placesE T [p] = 0
  · obtain ⟨g, hp0, hp1⟩ := placesE_one he
    have hE := HE.out.trans (if_pos he)
    rw [he] at HV
    clear he HE
    obtain ⟨j, rfl⟩ := nat_of hp0
    have hn : 0 < n := by have := g.ge; omega
    obtain ⟨b, off, a1, m1, c1, rfl, hb', hcell, hrow⟩ := h.cells 0 hn
    rw [Nat.add_zero] at hcell
    have hm : m1 = n0 T := by rw [← hrow.len]; rfl
    subst hm
    by_cases h1 : n0 T = 1
    · have HE' : Hid (E = 1) := hid_ (hE.trans (if_pos h1))
      have HR' : Hid (R = []) := hid_ (HR.out.trans (if_neg (by rw [HE'.out]; decide)))
      rw [h1] at hcell
      clear hE HR h hlen g hrow
      rw [HE'.out, HR'.out]
      go_enter Try.func56, Try.ntmps56
      go_wp2_with (go_at_call 61; (with_reducible refine HV.out.mono ?_); rintro e w2 ⟨rfl, q, rfl⟩; have q0 := cell_below hcell (below_drewN (Below.refl _ w) q))
      go_ret2
      exact ⟨_, [], rfl, OwnRw.nil _ _ (by decide), below_drewN (Below.refl _ _) _⟩
    · have HE' : Hid (E = 0) := hid_ (hE.trans (if_neg h1))
      have HR' : Hid (R = T.map fun r => r.eraseIdx j) := hid_ ((HR.out.trans (if_pos HE'.out)).trans (by rw [Int.toNat_natCast]))
      have hq : ((n0 T : Int) == 1) = false := by simp; omega
      have hjm : j < n0 T := by omega
      have hm6 : n0 T ≤ 6 := g.w6
      have HL := hid_ (fun W (hW : Below w.heap.size w W) => h.below hW (Nat.le_refl _))
      have Hlen := hid_ hlen
      have Hrow := hid_ (fun k (hk : k < n) => g.len k (by omega))
      have hn6 : n ≤ 6 := by have := g.le; omega
      obtain ⟨i0, hi0, hz0, hz1, hz2⟩ := info_parts Try.infoInt
      obtain ⟨i1, hi1, hz0', hz1', hz2'⟩ := info_parts Try.infoInts
      clear hE HR h hlen g h1 hp0 hp1 hrow
      generalize n0 T = m at *
      rw [HE'.out, HR'.out]
      go_enter Try.func56, Try.ntmps56
      go_wp2_with (go_at_call 61; (with_reducible refine HV.out.mono ?_); rintro e w2 ⟨rfl, q, rfl⟩; have q0 := cell_below hcell (below_drewN (Below.refl _ w) q))
      go_loopw [7, 8] (fun v i wr => ∃ (k : Nat) (us : List Value), k ≤ n ∧ i = .int .i64 k ∧ OwnRw 28 3 wr w.heap.size v us ((T.take k).map fun r => r.eraseIdx j) ∧ Below w.heap.size w wr) (fun _ i _ => n - (intOf i).toNat)
      case atStart => exact ⟨0, [], Nat.zero_le _, rfl, by simpa using OwnRw.nil _ _ (by decide), below_drewN (Below.refl _ _) _⟩
      case round =>
        obtain ⟨k, us, hk, rfl, hO, hbel⟩ := hrel
        have hsz := hbel.size
        by_cases hlt : k < n
        · obtain ⟨b1, off1, a2, n1, c1, e, hb, hcell, hrow⟩ := (HL.out wr hbel).cells k hlt
          injection e with e; injection e with e1 e2; subst e1; subst e2
          have hkl : k < T.length := by rw [Hlen.out]; exact hlt
          have hn1 : n1 = m := by rw [← hrow.len]; exact Hrow.out k hlt
          subst hn1
          have Hpush : Hid ((T.take (k + 1)).map (fun r => r.eraseIdx j) = (T.take k).map (fun r => r.eraseIdx j) ++ [(T.getD k []).eraseIdx j]) := hid_ (by rw [Kv.take_snoc T [] k hkl, List.map_append]; rfl)
          have Hjl : Hid (((T.take k).map fun r => r.eraseIdx j).length = k) := hid_ (by rw [List.length_map, List.length_take]; omega)
          have HO := hid_ hO
          obtain ⟨b3, off3, rfl, hb3, -⟩ := hrow.cells 0 (by omega)
          have b8 : Below wr.heap.size wr (wr.drew.alloc (.cells #[] 3)) := (Below.drew (Below.refl _ _)).alloc (Nat.le_refl _) _
          have HI1 := hid_ ((hrow.below b8 (Nat.le_refl _)).take (show j ≤ n1 by omega))
          have HI2 := hid_ (hrow.dropIf (show j + 1 ≤ n1 by omega))
          have Hel : Hid (((T.getD k []).eraseIdx j).length = n1 - 1) := hid_ (by rw [List.length_eraseIdx_of_lt (by rw [hrow.len]; exact hjm), hrow.len])
          have Hcat : Hid ((T.getD k []).take j ++ (T.getD k []).drop (j + 1) = (T.getD k []).eraseIdx j) := hid_ (List.eraseIdx_eq_take_drop_succ _ _).symm
          generalize T.getD k [] = y at *
          have S8 : ∀ W, Below wr.heap.size wr W → W.cell? ⟨b, off + k, none⟩ = some (.slice (some ⟨b3, off3, none⟩) n1 c1) := fun W hW => cell_below hcell hW
          have HS8 := hid_ S8
          have hc := hrow.small
          have hle := hrow.le
          have hjc : j ≤ c1 := by omega
          obtain ⟨j1, hj1⟩ : ∃ j1, j1 = j + 1 := ⟨_, rfl⟩
          have hjc1 : j1 ≤ c1 := by omega
          have hjn1 : j1 ≤ n1 := by omega
          have hwr : IntKind.i64.wrap ((j : Int) + 1) = (j1 : Int) := by rw [IntKind.wrap_i64]; omega
          rw [← hj1] at HI2 Hcat
          have Hj1 := hid_ hj1
          clear hj1
          clear hrow hO S8
          go_wp2
          refine wp_region_last (n := 19) (S := fun W' => W'.cell? ⟨b, off + k, none⟩ = some (.slice (some ⟨b3, off3, none⟩) n1 c1)) (by kernel_rfl) (by kernel_rfl) (HS8.out _ (Below.drew (Below.refl _ _))) (fun hHeld => ?_)
          refine wpAnyH_take (i := 0) (oi := ?oi0h1) (v := ?v0h1) ?hi0h1 (by kernel_rfl) ?hf0h1 (by kernel_rfl) ?hQ0h1 ?hy0h1 (by assumption) ?rest0h1
          case hi0h1 => (simp only [List.getElem?_toArray, List.getElem?_cons_zero]; rfl)
          case hf0h1 => kernel_rfl
          case hQ0h1 => exact fun _ _ _ h => h
          case hy0h1 => (refine Or.inl ⟨by rfl, ?_⟩; intro W hSw; (try dsimp only at hSw); go_simp; try with_reducible rfl)
          try simp only [Act.put, List.setIfInBounds_toArray, List.set_cons_zero, List.set_cons_succ]
          refine wpAnyH_take (i := 2) (oi := ?oi2h2) (v := ?v2h2) ?hi2h2 (by kernel_rfl) ?hf2h2 (by kernel_rfl) ?hQ2h2 ?hy2h2 (by assumption) ?rest2h2
          case hi2h2 => (simp only [List.getElem?_toArray, List.getElem?_cons_succ, List.getElem?_cons_zero]; rfl)
          case hf2h2 => kernel_rfl
          case hQ2h2 => exact fun _ _ _ h => h
          case hy2h2 => (refine Or.inl ⟨by rfl, ?_⟩; intro W hSw; (try dsimp only at hSw); go_simp; try with_reducible rfl)
          try simp only [Act.put, List.setIfInBounds_toArray, List.set_cons_zero, List.set_cons_succ]
          refine wpAnyH_take (i := 3) (oi := ?oi3h3) (v := ?v3h3) ?hi3h3 (by kernel_rfl) ?hf3h3 (by kernel_rfl) ?hQ3h3 ?hy3h3 (by assumption) ?rest3h3
          case hi3h3 => (simp only [List.getElem?_toArray, List.getElem?_cons_succ, List.getElem?_cons_zero]; rfl)
          case hf3h3 => kernel_rfl
          case hQ3h3 => exact fun _ _ _ h => h
          case hy3h3 => (refine Or.inl ⟨by rfl, ?_⟩; intro W hSw; (try dsimp only at hSw); go_simp; try with_reducible rfl)
          try simp only [Act.put, List.setIfInBounds_toArray, List.set_cons_zero, List.set_cons_succ]
          refine wpAnyH_take (i := 4) (oi := ?oi4h4) (v := ?v4h4) ?hi4h4 (by kernel_rfl) ?hf4h4 (by kernel_rfl) ?hQ4h4 ?hy4h4 (by assumption) ?rest4h4
          case hi4h4 => (simp only [List.getElem?_toArray, List.getElem?_cons_succ, List.getElem?_cons_zero]; rfl)
          case hf4h4 => kernel_rfl
          case hQ4h4 => exact fun _ _ _ h => h
          case hy4h4 => (refine Or.inl ⟨by rfl, ?_⟩; intro W hSw; (try dsimp only at hSw); go_simp; try with_reducible rfl)
          try simp only [Act.put, List.setIfInBounds_toArray, List.set_cons_zero, List.set_cons_succ]
          refine wpAnyH_take (i := 5) (oi := ?oi5h5) (v := ?v5h5) ?hi5h5 (by kernel_rfl) ?hf5h5 (by kernel_rfl) ?hQ5h5 ?hy5h5 (by assumption) ?rest5h5
          case hi5h5 => (simp only [List.getElem?_toArray, List.getElem?_cons_succ, List.getElem?_cons_zero]; rfl)
          case hf5h5 => kernel_rfl
          case hQ5h5 => exact fun _ _ _ h => h
          case hy5h5 => (refine Or.inl ⟨by rfl, ?_⟩; intro W hSw; (try dsimp only at hSw); go_simp; try with_reducible rfl)
          try simp only [Act.put, List.setIfInBounds_toArray, List.set_cons_zero, List.set_cons_succ]
          refine wpAnyH_take (i := 6) (oi := ?oi6h6) (v := ?v6h6) ?hi6h6 (by kernel_rfl) ?hf6h6 (by kernel_rfl) ?hQ6h6 ?hy6h6 (by assumption) ?rest6h6
          case hi6h6 => (simp only [List.getElem?_toArray, List.getElem?_cons_succ, List.getElem?_cons_zero]; rfl)
          case hf6h6 => kernel_rfl
          case hQ6h6 => exact fun _ _ _ h => h
          case hy6h6 => (refine Or.inl ⟨by rfl, ?_⟩; intro W hSw; (try dsimp only at hSw); go_simp; try with_reducible rfl)
          try simp only [Act.put, List.setIfInBounds_toArray, List.set_cons_zero, List.set_cons_succ]
          refine wpAnyH_take (i := 7) (oi := ?oi7h7) (v := ?v7h7) ?hi7h7 (by kernel_rfl) ?hf7h7 (by kernel_rfl) ?hQ7h7 ?hy7h7 (by assumption) ?rest7h7
          case hi7h7 => (simp only [List.getElem?_toArray, List.getElem?_cons_succ, List.getElem?_cons_zero]; rfl)
          case hf7h7 => kernel_rfl
          case hQ7h7 => exact fun _ _ _ h => h
          case hy7h7 => (refine Or.inl ⟨by rfl, ?_⟩; intro W hSw; (try dsimp only at hSw); go_simp; try with_reducible rfl)
          try simp only [Act.put, List.setIfInBounds_toArray, List.set_cons_zero, List.set_cons_succ]
          refine wpAnyH_take (i := 9) (oi := ?oi9h8) (v := ?v9h8) ?hi9h8 (by kernel_rfl) ?hf9h8 (by kernel_rfl) ?hQ9h8 ?hy9h8 (by assumption) ?rest9h8
          case hi9h8 => (simp only [List.getElem?_toArray, List.getElem?_cons_succ, List.getElem?_cons_zero]; rfl)
          case hf9h8 => kernel_rfl
          case hQ9h8 => exact fun _ _ _ h => h
          case hy9h8 => (refine Or.inl ⟨by rfl, ?_⟩; intro W hSw; (try dsimp only at hSw); go_simp; try with_reducible rfl)
          try simp only [Act.put, List.setIfInBounds_toArray, List.set_cons_zero, List.set_cons_succ]
          refine wpAnyH_take (i := 10) (oi := ?oi10h9) (v := ?v10h9) ?hi10h9 (by kernel_rfl) ?hf10h9 (by kernel_rfl) ?hQ10h9 ?hy10h9 (by assumption) ?rest10h9
          case hi10h9 => (simp only [List.getElem?_toArray, List.getElem?_cons_succ, List.getElem?_cons_zero]; rfl)
          case hf10h9 => kernel_rfl
          case hQ10h9 => exact fun _ _ _ h => h
          case hy10h9 => (refine Or.inl ⟨by rfl, ?_⟩; intro W hSw; (try dsimp only at hSw); go_simp; try with_reducible rfl)
          try simp only [Act.put, List.setIfInBounds_toArray, List.set_cons_zero, List.set_cons_succ]
          refine wpAnyH_take (i := 11) (oi := ?oi11h10) (v := ?v11h10) ?hi11h10 (by kernel_rfl) ?hf11h10 (by kernel_rfl) ?hQ11h10 ?hy11h10 (by assumption) ?rest11h10
          case hi11h10 => (simp only [List.getElem?_toArray, List.getElem?_cons_succ, List.getElem?_cons_zero]; rfl)
          case hf11h10 => kernel_rfl
          case hQ11h10 => exact fun _ _ _ h => h
          case hy11h10 => (refine Or.inl ⟨by rfl, ?_⟩; intro W hSw; (try dsimp only at hSw); go_simp; try with_reducible rfl)
          try simp only [Act.put, List.setIfInBounds_toArray, List.set_cons_zero, List.set_cons_succ]
          refine wpAnyH_take (i := 12) (oi := ?oi12h11) (v := ?v12h11) ?hi12h11 (by kernel_rfl) ?hf12h11 (by kernel_rfl) ?hQ12h11 ?hy12h11 (by assumption) ?rest12h11
          case hi12h11 => (simp only [List.getElem?_toArray, List.getElem?_cons_succ, List.getElem?_cons_zero]; rfl)
          case hf12h11 => kernel_rfl
          case hQ12h11 => exact fun _ _ _ h => h
          case hy12h11 => (refine Or.inl ⟨by rfl, ?_⟩; intro W hSw; (try dsimp only at hSw); go_simp; try with_reducible rfl)
          try simp only [Act.put, List.setIfInBounds_toArray, List.set_cons_zero, List.set_cons_succ]
          refine wpAnyH_take (i := 13) (oi := ?oi13h12) (v := ?v13h12) ?hi13h12 (by kernel_rfl) ?hf13h12 (by kernel_rfl) ?hQ13h12 ?hy13h12 (by assumption) ?rest13h12
          case hi13h12 => (simp only [List.getElem?_toArray, List.getElem?_cons_succ, List.getElem?_cons_zero]; rfl)
          case hf13h12 => kernel_rfl
          case hQ13h12 => exact fun _ _ _ h => h
          case hy13h12 => (refine Or.inl ⟨by rfl, ?_⟩; intro W hSw; (try dsimp only at hSw); go_simp; try with_reducible rfl)
          try simp only [Act.put, List.setIfInBounds_toArray, List.set_cons_zero, List.set_cons_succ]
          refine wpAnyH_take (i := 14) (oi := ?oi14h13) (v := ?v14h13) ?hi14h13 (by kernel_rfl) ?hf14h13 (by kernel_rfl) ?hQ14h13 ?hy14h13 (by assumption) ?rest14h13
          case hi14h13 => (simp only [List.getElem?_toArray, List.getElem?_cons_succ, List.getElem?_cons_zero]; rfl)
          case hf14h13 => kernel_rfl
          case hQ14h13 => exact fun _ _ _ h => h
          case hy14h13 => (refine Or.inl ⟨by rfl, ?_⟩; intro W hSw; (try dsimp only at hSw); go_simp; try with_reducible rfl)
          try simp only [Act.put, List.setIfInBounds_toArray, List.set_cons_zero, List.set_cons_succ]
          refine wpAnyH_take (i := 15) (oi := ?oi15h14) (v := ?v15h14) ?hi15h14 (by kernel_rfl) ?hf15h14 (by kernel_rfl) ?hQ15h14 ?hy15h14 (by assumption) ?rest15h14
          case hi15h14 => (simp only [List.getElem?_toArray, List.getElem?_cons_succ, List.getElem?_cons_zero]; rfl)
          case hf15h14 => kernel_rfl
          case hQ15h14 => exact fun _ _ _ h => h
          case hy15h14 => (refine Or.inl ⟨by rfl, ?_⟩; intro W hSw; (try dsimp only at hSw); go_simp; try with_reducible rfl)
          try simp only [Act.put, List.setIfInBounds_toArray, List.set_cons_zero, List.set_cons_succ]
          refine wpAnyH_ready (rs := [1]) (by kernel_rfl) (by simp) ?_
          refine AllReadyH.cons (o := _) (by (simp only [List.getElem?_toArray, List.getElem?_cons_succ, List.getElem?_cons_zero]; rfl)) (fun K hK => ?_) AllReadyH.nil
          go_simp
          refine hK.out _ _ ?_ (fun hHeld => ?_)
          · exact HS8.out _ b8
          clear hK K
          try simp only [Act.put, List.setIfInBounds_toArray, List.set_cons_zero, List.set_cons_succ]
          refine wpAnyH_ready (rs := [8]) (by kernel_rfl) (by simp) ?_
          refine AllReadyH.cons (o := _) (by (simp only [List.getElem?_toArray, List.getElem?_cons_succ, List.getElem?_cons_zero]; rfl)) (fun K hK => ?_) AllReadyH.nil
          refine step_append_row rfl (.tmp 27) (.tmp 33) rfl wr.heap.size _ 0 [] (by rfl) (World.ownsRow_lit (base := wr.heap.size) (e := 3) (size := 1) wr.drew #[] 0 (Nat.le_refl _) (by unfold maxLen; omega) rfl) (some ⟨b3, off3, none⟩) j c1 (y.take j) (by rfl) HI1.out (by omega) (by simp) ?_; intro v5 w5 ho5 hg5 hat5; simp only [Nat.zero_add, List.nil_append] at ho5; have bw5 : Below wr.heap.size wr w5 := b8.grown hg5 (by simp) (fun r e => by cases e; exact Nat.le_refl _); obtain ⟨a5, c5, rfl, -⟩ := IntsAt.own ho5
          refine hK.out _ _ ?_ (fun hHeld => ?_)
          · exact HS8.out _ bw5
          clear hK K
          try simp only [Act.put, List.setIfInBounds_toArray, List.set_cons_zero, List.set_cons_succ]
          refine wpAnyH_ready (rs := [16]) (by kernel_rfl) (by simp) ?_
          refine AllReadyH.cons (o := _) (by (simp only [List.getElem?_toArray, List.getElem?_cons_succ, List.getElem?_cons_zero]; rfl)) (fun K hK => ?_) AllReadyH.nil
          refine step_append_row rfl (.tmp 34) (.tmp 41) rfl wr.heap.size _ j (y.take j) (by rfl) ho5 (if c1 = j1 then some ⟨b3, off3, none⟩ else some ⟨b3, off3 + j1, none⟩) (n1 - j1) (c1 - j1) (y.drop j1) (by rfl) (HI2.out.below bw5 (Nat.le_refl _)) (by omega) bw5.size ?_; intro v6 w6 ho6 hg6 hat6; rw [Hcat.out] at ho6; have bw6 : Below wr.heap.size wr w6 := bw5.grown hg6 bw5.size (fun r e => (ho5.lt r e).1); obtain ⟨a6, c6, rfl, -⟩ := IntsAt.own ho6; have bw7 := bw6.alloc bw6.size (.cells #[.slice a6 (j + (n1 - j1)) c6] 28)
          refine hK.out _ _ ?_ (fun hHeld => ?_)
          · exact HS8.out _ bw6
          clear hK K
          try simp only [Act.put, List.setIfInBounds_toArray, List.set_cons_zero, List.set_cons_succ]
          refine wpAnyH_ready (rs := [17]) (by kernel_rfl) (by simp) ?_
          refine AllReadyH.cons (o := _) (by (simp only [List.getElem?_toArray, List.getElem?_cons_succ, List.getElem?_cons_zero]; rfl)) (fun K hK => ?_) AllReadyH.nil
          go_simp
          refine hK.out _ _ ?_ (fun hHeld => ?_)
          · exact HS8.out _ bw7
          clear hK K
          try simp only [Act.put, List.setIfInBounds_toArray, List.set_cons_zero, List.set_cons_succ]
          have hO6 : (w6.alloc (.cells #[.slice a6 (j + (n1 - j1)) c6] 28)).ownsRow w.heap.size 28 1 u7 k us := by have h9 := (HO.out.below bw7 (Nat.le_refl _)).top; rw [Hjl.out] at h9; exact h9
          refine wpAnyH_ready (rs := [18]) (by kernel_rfl) (by simp) ?_
          refine AllReadyH.cons (o := _) (by (simp only [List.getElem?_toArray, List.getElem?_cons_succ, List.getElem?_cons_zero]; rfl)) (fun K hK => ?_) AllReadyH.nil
          refine step_push_val2 rfl (.tmp 26) (.tmp 43) _ rfl w.heap.size 28 i1 Try.underlying22 hi1 hz0' rfl hz1' hz2' (by omega) u7 k us (by rfl) hO6 (.slice a6 (j + (n1 - j1)) c6) rfl w6.heap.size (by rfl) (cells_alloc _ _ _ 0) (by omega) (by have := bw7.size; omega) ?_; intro v7 w7 hown7 hg7
          refine hK.out _ _ ?_ (fun hHeld => ?_)
          · exact hg7.cell (HS8.out _ bw7) (fun e => by have := (hO6.lt _ e.symm).1; have : w.heap.size ≤ b := this; omega)
          clear hK K
          try simp only [Act.put, List.setIfInBounds_toArray, List.set_cons_zero, List.set_cons_succ]
          refine wpAnyH_done (by kernel_rfl) ?_ _
          clear hHeld
          refine last_of ?_
          refine wpOp_step (o := _) (by (simp only [List.getElem?_toArray, List.getElem?_cons_succ, List.getElem?_cons_zero]; rfl)) (fun K hK => ?_)
          go_simp
          refine hK _ _ ?_
          clear hK K
          try simp only [Act.put, List.setIfInBounds_toArray, List.set_cons_zero, List.set_cons_succ]
          have e9 : n1 - 1 = j + (n1 - j1) := by have := Hj1.out; omega
          have HO7 := hid_ (OwnRw.push (r := y.eraseIdx j) hsz HO.out bw6 (by rw [Hel.out, e9]; exact ho6) (by rw [Hjl.out]; exact hown7) hg7)
          have Hb7 : Hid (Below w.heap.size w w7) := hid_ ((hbel.trans (bw7.mono hsz)).grown hg7 (by have := bw7.size; omega) (fun r e => (hO6.lt r e).1))
          clear ho5 ho6 hg5 hg6 hat5 hat6 hown7 hg7 hO6 bw5 bw6 bw7 b8
          go_wp2
          go_roundw
          case rel => exact ⟨k + 1, _, by omega, by go_num, by rw [Hpush.out]; exact HO7.out, Hb7.out⟩
          case measure => simp [intOf]; omega
        · obtain rfl : k = n := by omega
          rw [show T.take k = T from List.take_of_length_le (by rw [Hlen.out]; exact Nat.le_refl _)] at hO
          have HO := hid_ hO
          clear hO
          go_wp2
          go_ret2
          exact ⟨_, us, rfl, HO.out, hbel⟩
  · have HE' : Hid (E = placesE T [p]) := hid_ (HE.out.trans (if_neg he))
    have HR' : Hid (R = []) := hid_ (HR.out.trans (if_neg (by rw [HE'.out]; exact he)))
    have hq : (placesE T [p] != 0) = true := by simpa using he
    rw [HE'.out, HR'.out]
    generalize placesE T [p] = x at *
    clear he HE HR
    go_enter Try.func56, Try.ntmps56
    go_wp2_with (go_at_call 61; (with_reducible refine HV.out.mono ?_); rintro e w2 ⟨rfl, q, rfl⟩)
    go_ret2
    exact ⟨_, [], rfl, OwnRw.nil _ _ (by decide), below_drewN (Below.refl _ _) _⟩
end Go.Proofs.Ytdhmcmkpeaoigaa
