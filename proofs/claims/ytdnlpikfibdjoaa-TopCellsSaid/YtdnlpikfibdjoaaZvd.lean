import Derived.Test.YtdnlpikfibdjoaaZdg
import Derived.Test.YtdnlpikfibdjoaaZ9
import Derived.Test.YtdnlpikfibdjoaaZvb
import Derived.BigRegion
namespace Go.Proofs.Ytdnlpikfibdjoaa
open Go.RowKit Go.Proofs.Kv Go

/-! ### an entry of an own row is put anew -/
theorem encE_set : ∀ (l : List Ec) (k : Nat) (x : Ec), k < l.length → (l.set k x).flatMap encE = ((l.flatMap encE).set (k * 2) x.1).set (k * 2 + 1) (.int .i64 x.2)
  | [], k, x, h => by simp at h
  | y :: l, 0, x, h => rfl
  | y :: l, k + 1, x, h => by
    have ih := encE_set l k x (by simpa using h)
    rw [List.set_cons_succ, List.flatMap_cons, List.flatMap_cons, ih, show (k + 1) * 2 = k * 2 + 2 by omega]
    rfl
theorem SpecV.put {w : World} {B g : Nat} {u : Value} {l : List Int} (h : SpecV w B (some g) u l) (j : Nat) (y : Value) : SpecV (w.setCell ⟨g, j, none⟩ y) B (some g) u l := by
  obtain ⟨a, n, c, e, hi, hd⟩ := h
  exact ⟨a, n, c, e, hi.other y fun b off i ha hi' e => (hd b off (by omega) ha).2 (by simp at e; rw [e.1]), hd⟩
theorem OwnE.put {w : World} {B g n c : Nat} {L : List Ent} (h : OwnE w B (.slice (some ⟨g, 0, none⟩) n c) L) (k : Nat) (hk : k < L.length) (u : Value) (l : List Int) (f : Int) (hu : SpecV w B (some g) u l) :
    OwnE ((w.setCell ⟨g, k * 2, none⟩ u).setCell ⟨g, k * 2 + 1, none⟩ (.int .i64 f)) B (.slice (some ⟨g, 0, none⟩) n c) (L.set k ⟨l, f⟩) := by
  obtain ⟨vs, h0, h1, h2⟩ := h
  have hn : n = L.length := by
    rcases h1.2 with ⟨e, _⟩ | ⟨g', cap, cur, e, _⟩
    · cases e
    · injection e
  subst hn
  refine ⟨vs.set k (u, f), by simp [h0], ?_, fun i x hx => ?_⟩
  · rw [encE_set vs k _ (by omega), List.length_set]
    exact ((h1.stored (k * 2) u).1.stored (k * 2 + 1) (.int .i64 f)).1
  · by_cases hi : i = k
    · subst hi
      rw [List.getElem?_set_self (by omega)] at hx
      injection hx with hx
      subst hx
      rw [show (L.set i ⟨l, f⟩).getD i E0 = ⟨l, f⟩ by simp [List.getD, hk]]
      exact ⟨(hu.put _ _).put _ _, rfl⟩
    · rw [List.getElem?_set_ne (Ne.symm hi)] at hx
      rw [show (L.set k ⟨l, f⟩).getD i E0 = L.getD i E0 by simp [List.getD, List.getElem?_set_ne (Ne.symm hi)]]
      exact ⟨(((h2 i x hx).s).put _ _).put _ _, (h2 i x hx).f⟩
/-- what an own row of entries holds at k -/
theorem OwnE.get {w : World} {B : Nat} {v : Value} {L : List Ent} (h : OwnE w B v L) (k : Nat) (hk : k < L.length) : ∃ g c a1 n1 c1, v = .slice (some ⟨g, 0, none⟩) L.length c ∧ B ≤ g ∧ g < w.heap.size ∧ w.cell? ⟨g, k * 2, none⟩ = some (.slice a1 n1 c1) ∧ w.cell? ⟨g, k * 2 + 1, none⟩ = some (.int .i64 (L.getD k E0).form) ∧ SpecV w B (some g) (.slice a1 n1 c1) (L.getD k E0).spec ∧ ∀ j, w.frozen? ⟨g, j, none⟩ = false := by
  obtain ⟨vs, h0, h1, h2⟩ := h
  have H1 := h1
  rcases h1.2 with ⟨rfl, hz⟩ | ⟨g, cap, cur, rfl, hB, hg, hn, hm, hs, ht⟩
  · omega
  · have hv : vs[k]? = some vs[k] := List.getElem?_eq_getElem (by omega)
    have hr := h2 k _ hv
    obtain ⟨e0, e1⟩ := encE_at vs k _ hv
    have A : ∀ j u, (vs.flatMap encE)[j]? = some u → w.cell? ⟨g, j, none⟩ = some u := fun j u hu => by
      have := H1.cells (g := g) rfl j u hu
      rwa [show (⟨g, 0, none⟩ : Addr).add j = ⟨g, j, none⟩ by unfold Addr.add; split <;> simp_all] at this
    obtain ⟨a1, n1, c1, hu, hI, hd⟩ := hr.s
    have e0' := A _ _ e0
    rw [hu] at e0'
    refine ⟨g, cap, a1, n1, c1, rfl, hB, Go.lt_of_block hg, e0', by rw [← hr.f]; exact A _ _ e1, ⟨a1, n1, c1, rfl, hI, hd⟩, fun j => ?_⟩
    exact row_free hg j
end Go.Proofs.Ytdnlpikfibdjoaa
namespace Go.Proofs.Ytdnlpikfibdjoaa
open Go.RowKit Go.Proofs.Kv Go

/-! ### Swap of the program -/
def swapP (P : Par) (i j : Nat) : Par := ⟨P.sizes, (P.ents.set i (P.ents.getD j E0)).set j (P.ents.getD i E0)⟩
def resSwap (P : Par) (i j : Int) : Par := if errN P [i, j] = 0 then swapP P i.toNat j.toNat else ⟨[], []⟩
theorem MadeP6.zero {w w' : World} (h : Below w.heap.size w w') : MadeP6 w w' (.agg #[.slice none 0 0, .slice none 0 0]) ⟨[], []⟩ :=
  ⟨_, _, rfl, ⟨none, 0, 0, rfl, ⟨IntsAt.nil _ _ _ (by omega), fun b off ha => by cases ha⟩, fun b off h0 => absurd h0 (by omega)⟩, OwnE.nil _ _, h⟩
theorem cells_two {W : World} {d : Nat} {v2 v3 : Value} (x2 : W.cell? ⟨d, 0, none⟩ = some v2) (x3 : W.cell? ⟨d, 1, none⟩ = some v3) (u2 u3 : Value) :
    ((W.setCell ⟨d, 0, none⟩ u2).setCell ⟨d, 1, none⟩ u3).cell? ⟨d, 0, none⟩ = some u2 ∧ ((W.setCell ⟨d, 0, none⟩ u2).setCell ⟨d, 1, none⟩ u3).cell? ⟨d, 1, none⟩ = some u3 := by
  refine ⟨?_, ?_⟩
  · rw [World.cell?_setCell_other _ _ _ _ (by simp), World.cell?_setCell_same _ _ _ x2]
  · rw [World.cell?_setCell_same _ _ _ (by rw [World.cell?_setCell_other _ _ _ _ (by simp)]; exact x3)]
set_option maxRecDepth 100000 in
set_option maxHeartbeats 8000000 in
theorem ceSwap_calls (v : Value) (P : Par) (i j : Int) (w : World) (h : ParAt w v P) :
    Calls Try.prog 37 #[v, .int .i64 i, .int .i64 j] w fun e w' => ∃ v', e = .returned (.tuple #[v', .int .i64 (errN P [i, j])]) ∧ MadeP6 w w' v' (resSwap P i j) := by
  have HP := hid_ h
  obtain ⟨a1, n1, c1, a2, n2, c2, rfl, h1, h2⟩ := h
  obtain ⟨w1, hw1⟩ : ∃ w1, w.alloc (.cells #[.slice a1 n1 c1, .slice a2 n2 c2] 25) = w1 := ⟨_, rfl⟩
  have cb : Below w.heap.size w w1 := by rw [← hw1]; exact below_alloc _ _
  have q0 : w1.cell? ⟨w.heap.size, 0, none⟩ = some (.slice a1 n1 c1) := by rw [← hw1]; exact cells_alloc _ _ _ 0
  have q1 : w1.cell? ⟨w.heap.size, 1, none⟩ = some (.slice a2 n2 c2) := by rw [← hw1]; exact cells_alloc _ _ _ 1
  have HP1 := hid_ (HP.out.below cb (Nat.le_refl _)); have Hc1 := hid_ cb
  obtain ⟨w2, hw2⟩ : ∃ w2, w1.alloc (.cells #[.slice none 0 0, .slice none 0 0] 25) = w2 := ⟨_, rfl⟩
  have z1 : w1.heap.size = w.heap.size + 1 := by rw [← hw1]; simp
  have z2 : w2.heap.size = w.heap.size + 2 := by rw [← hw2]; simp [z1]
  have b2 : Below w1.heap.size w1 w2 := by rw [← hw2]; exact below_alloc _ _
  have r0 : w2.cell? ⟨w.heap.size + 1, 0, none⟩ = some (.slice none 0 0) := by rw [← z1, ← hw2]; exact cells_alloc _ _ _ 0
  have r1 : w2.cell? ⟨w.heap.size + 1, 1, none⟩ = some (.slice none 0 0) := by rw [← z1, ← hw2]; exact cells_alloc _ _ _ 1
  have f0 : ∀ j, w2.frozen? ⟨w.heap.size + 1, j, none⟩ = false := fun j => by rw [← z1, ← hw2]; exact World.frozen?_alloc_at _ _ _ _ (by simp)
  have q02 := cell_below q0 b2; have q12 := cell_below q1 b2
  have HP2 := hid_ (HP1.out.below b2 (Nat.le_refl _))
  have HE := hid_ (fun T => validateEntries_calls _ P _ 2 2 [i, j] (w2.alloc (.cells #[.int .i64 i, .int .i64 j] T)) (HP2.out.below (below_alloc _ _) (Nat.le_refl _)) (ints_two w2 i j T))
  have HR : Hid (resSwap P i j = if errN P [i, j] = 0 then swapP P i.toNat j.toNat else ⟨[], []⟩) := hid_ rfl
  have Hb2 : Hid (Below w.heap.size w w2) := hid_ (Hc1.out.trans (b2.mono Hc1.out.size))
  have hln := h2.len
  have Z2 := hid_ z2
  have hwz : w.heap.size + 2 ≤ w2.heap.size := by omega
  clear h1 h2 cb b2 q0 q1 z2
  by_cases he : errN P [i, j] = 0
  · obtain ⟨hv, hi, hj⟩ := errN_ok he
    obtain ⟨i', rfl, hi'⟩ := isNo_ok hi
    obtain ⟨j', rfl, hj'⟩ := isNo_ok hj
    have Hf : Hid (resSwap P i' j' = swapP P i' j') := hid_ (by rw [HR.out, if_pos he, Int.toNat_natCast, Int.toNat_natCast])
    obtain ⟨-, -, h10, hent⟩ := validP_ok hv
    have h3 := (validP_ok hv).1.2
    have HC := hid_ (fun W (hW : Below w2.heap.size w2 W) => copied_calls _ P W (HP2.out.below hW (Nat.le_refl _)) (by omega) (by omega) (fun k hk => by have := (specB_ok (hent k hk).1).1; omega))
    have Hi := hid_ hi'; have Hj := hid_ hj'
    have hi2 : i' < n2 := by omega
    have hj2 : j' < n2 := by omega
    have h10' : n2 ≤ 10 := by omega
    have Hln := hid_ hln
    rw [he] at HE ⊢
    rw [Hf.out]
    clear he hv hi hj hent h10 h3 hi' hj' HR hln
    go_enter Try.func37, Try.ntmps37
    go_wp2_with (first
      | (go_at_call 62; (with_reducible refine (HE.out _).mono ?_); rintro e w3 ⟨rfl, hc3⟩; have hb3 := (below_alloc w2 (.cells #[.int .i64 (i' : Int), .int .i64 (j' : Int)] 3)).trans (hc3.mono (below_alloc w2 (.cells #[.int .i64 (i' : Int), .int .i64 (j' : Int)] 3)).size); have q03 := cell_below q02 hb3; have q13 := cell_below q12 hb3)
      | (go_at_call 57; (with_reducible refine (HC.out _ hb3).mono ?_); rintro e w4 ⟨v4, rfl, u4, x4, rfl, hu4, hx4, hb4⟩; obtain ⟨a3, n3, c3, rfl, -⟩ := hu4.ints; obtain ⟨g, c4, -, -, -, rfl, -⟩ := hx4.get i' Hi.out; rw [Hln.out]))
    obtain ⟨W, hW⟩ : ∃ W, w4.alloc (.cells #[.slice a3 n3 c3, .slice (some ⟨g, 0, none⟩) n2 c4] 25) = W := ⟨_, rfl⟩
    rw [hW]
    have bW : Below w4.heap.size w4 W := by rw [← hW]; exact below_alloc _ _
    have t0 : W.cell? ⟨w4.heap.size, 0, none⟩ = some (.slice a3 n3 c3) := by rw [← hW]; exact cells_alloc _ _ _ 0
    have t1 : W.cell? ⟨w4.heap.size, 1, none⟩ = some (.slice (some ⟨g, 0, none⟩) n2 c4) := by rw [← hW]; exact cells_alloc _ _ _ 1
    have hx := hx4.next bW

    have hown := hx
    obtain ⟨g', c', ai, ni, ci, ei, hgB, hgl, x0, x1, hsi, hfr⟩ := hx.get i' Hi.out
    injection ei with ei _ ei2
    injection ei with ei
    injection ei with ei
    subst ei ei2
    obtain ⟨g', c', aj, nj, cj, ej, -, -, y0, y1, hsj, -⟩ := hx.get j' Hj.out
    injection ej with ej _ ej2
    injection ej with ej
    injection ej with ej
    subst ej ej2

    have hgw : g < w4.heap.size := by
      have := hx4.lt g rfl
      exact this.2
    have hne1 : ¬ g = w4.heap.size := by omega
    have hne2 : ¬ w4.heap.size = g := by omega
    have Hx4 := hid_ hx4; have Hu4 := hid_ hu4; have HbW := hid_ bW; have Hb4 := hid_ hb4; have Hb3 := hid_ hb3; have Hown := hid_ hown; have Hsi := hid_ hsi; have Hsj := hid_ hsj
    have f1 := hfr (i' * 2); have f2 := hfr (i' * 2 + 1); have f3 := hfr (j' * 2); have f4 := hfr (j' * 2 + 1)
    generalize hfi : (P.ents.getD i' E0).form = fi at *
    generalize hfj : (P.ents.getD j' E0).form = fj at *
    have Hfi := hid_ hfi; have Hfj := hid_ hfj
    clear hx4 hu4 bW hb4 hb3 hown hx hsi hsj hfr hW hw1 hw2 hc3 hfi hfj
    have s0 : (W.setCell ⟨g, i' * 2, none⟩ (.slice aj nj cj)).cell? ⟨g, j' * 2, none⟩ = some (.slice aj nj cj) := by
      by_cases h : i' = j'
      · subst h
        rw [World.cell?_setCell_same _ _ _ x0]
      · rw [World.cell?_setCell_other _ _ _ _ (by first | (simp; done) | (simp; omega))]; exact y0
    have s1 : ((W.setCell ⟨g, i' * 2, none⟩ (.slice aj nj cj)).setCell ⟨g, i' * 2 + 1, none⟩ (.int .i64 fj)).cell? ⟨g, j' * 2 + 1, none⟩ = some (.int .i64 fj) := by
      by_cases h : i' = j'
      · subst h
        rw [World.cell?_setCell_same _ _ _ (by rw [World.cell?_setCell_other _ _ _ _ (by simp)]; exact x1)]
      · rw [World.cell?_setCell_other _ _ _ _ (by first | (simp; done) | (simp; omega)), World.cell?_setCell_other _ _ _ _ (by first | (simp; done) | (simp; omega))]; exact y1
    go_region
    have hgB3 : w3.heap.size ≤ g := hgB
    have hp2 := (Hown.out.put i' Hi.out (.slice aj nj cj) _ fj Hsj.out)
    have hp3 := hp2.put j' (by rw [List.length_set]; exact Hj.out) (.slice ai ni ci) _ fi ((Hsi.out.put _ _).put _ _)
    have hL : (P.ents.set i' ⟨(P.ents.getD j' E0).spec, fj⟩).set j' ⟨(P.ents.getD i' E0).spec, fi⟩ = (swapP P i' j').ents := by rw [swapP, ← Hfi.out, ← Hfj.out]
    rw [hL] at hp3
    have hbV : Below w4.heap.size w4 W := HbW.out
    obtain ⟨V, hV⟩ : ∃ V, ((((W.setCell ⟨g, i' * 2, none⟩ (.slice aj nj cj)).setCell ⟨g, i' * 2 + 1, none⟩ (.int .i64 fj)).setCell ⟨g, j' * 2, none⟩ (.slice ai ni ci)).setCell ⟨g, j' * 2 + 1, none⟩ (.int .i64 fi)) = V := ⟨_, rfl⟩
    rw [hV] at hp3 ⊢
    have hother : ∀ p : Addr, p.block ≠ g → V.cell? p = W.cell? p := fun p hp => by
      have hp' : ∀ x, ¬ (⟨g, x, none⟩ : Addr) = p := fun x e => hp (by rw [← e])
      rw [← hV, World.cell?_setCell_other _ _ _ _ (hp' _), World.cell?_setCell_other _ _ _ _ (hp' _), World.cell?_setCell_other _ _ _ _ (hp' _), World.cell?_setCell_other _ _ _ _ (hp' _)]
    have hfrz : ∀ p : Addr, V.frozen? p = W.frozen? p := fun p => by rw [← hV]; simp only [World.frozen?_setCell]
    have hu := (((((Hu4.out.next HbW.out).put (i' * 2) (.slice aj nj cj)).put (i' * 2 + 1) (.int .i64 fj)).put (j' * 2) (.slice ai ni ci)).put (j' * 2 + 1) (.int .i64 fi))
    rw [hV] at hu
    have hVw : Below w2.heap.size w2 V := by
      have h0 : Below w2.heap.size w2 W := Hb3.out.trans ((Hb4.out.trans (HbW.out.mono Hb4.out.size)).mono Hb3.out.size)
      have hg2 : w2.heap.size ≤ g := Nat.le_trans Hb3.out.size hgB3
      rw [← hV]
      exact (((h0.setCell (p := ⟨g, i' * 2, none⟩) hg2 _).setCell (p := ⟨g, i' * 2 + 1, none⟩) hg2 _).setCell (p := ⟨g, j' * 2, none⟩) hg2 _).setCell (p := ⟨g, j' * 2 + 1, none⟩) hg2 _
    have c0 : V.cell? ⟨w4.heap.size, 0, none⟩ = some (.slice a3 n3 c3) := (hother _ hne2).trans t0
    have c1 : V.cell? ⟨w4.heap.size, 1, none⟩ = some (.slice (some ⟨g, 0, none⟩) n2 c4) := (hother _ hne2).trans t1
    have z0 : V.cell? ⟨w.heap.size + 1, 0, none⟩ = some (.slice none 0 0) := cell_below r0 hVw
    have z1' : V.cell? ⟨w.heap.size + 1, 1, none⟩ = some (.slice none 0 0) := cell_below r1 hVw
    have z2' : V.frozen? ⟨w.heap.size + 1, 0, none⟩ = false := (hVw.frozen (p := ⟨w.heap.size + 1, 0, none⟩) (by show w.heap.size + 1 < w2.heap.size; omega)).trans (f0 0)
    have z3' : V.frozen? ⟨w.heap.size + 1, 1, none⟩ = false := (hVw.frozen (p := ⟨w.heap.size + 1, 1, none⟩) (by show w.heap.size + 1 < w2.heap.size; omega)).trans (f0 1)
    obtain ⟨k0, k1⟩ := cells_two (W := V) z0 z1' (.slice a3 n3 c3) (.slice (some ⟨g, 0, none⟩) n2 c4)
    rw [Hln.out] at hp3
    have Hp3 := hid_ hp3; have Hu := hid_ hu; have HVw := hid_ hVw
    clear hV hp2 hp3 hu hVw hother hfrz hL s0 s1 x0 x1 y0 y1 t0 t1 f1 f2 f3 f4 r0 r1
    go_wp2
    have z2 := Z2.out
    have h23 : w2.heap.size ≤ w3.heap.size := Hb3.out.size
    have hp : w.heap.size + 1 < w3.heap.size := by omega
    have bd : ∀ U : World, Below U.heap.size U U.drew := fun U => Below.drew (Below.refl _ _)
    refine bodyPost_ret (v := .tuple #[.agg #[.slice a3 n3 c3, .slice (some ⟨g, 0, none⟩) n2 c4], .int .i64 0]) ?_ rfl ⟨_, rfl, _, _, rfl, ?_, ?_, ?_⟩
    · simp [results, Try.results37, go_sem, k0, k1]
    · exact (((Hu.out.store (p := ⟨w.heap.size + 1, 0, none⟩) hp _).store (p := ⟨w.heap.size + 1, 1, none⟩) hp _).base (by omega)).next (bd _)
    · exact (((Hp3.out.store (p := ⟨w.heap.size + 1, 0, none⟩) hp _).store (p := ⟨w.heap.size + 1, 1, none⟩) hp _).base (by omega)).next (bd _)
    · have hf : Below w.heap.size w V := Hb2.out.trans (HVw.out.mono Hb2.out.size)
      exact ((hf.setCell (p := ⟨w.heap.size + 1, 0, none⟩) (by show _ ≤ _ + 1; omega) _).setCell (p := ⟨w.heap.size + 1, 1, none⟩) (by show _ ≤ _ + 1; omega) _).drew
  · have hq : (errN P [i, j] != 0) = true := by simpa using he
    have Hf : Hid (resSwap P i j = ⟨[], []⟩) := hid_ (by rw [HR.out, if_neg he])
    rw [Hf.out]
    generalize errN P [i, j] = x at *
    clear he HR
    have qf : ∀ W, Below w2.heap.size w2 W → (W.cell? ⟨w.heap.size + 1, 0, none⟩ = some (.slice none 0 0) ∧ W.cell? ⟨w.heap.size + 1, 1, none⟩ = some (.slice none 0 0)) ∧ (W.frozen? ⟨w.heap.size + 1, 0, none⟩ = false ∧ W.frozen? ⟨w.heap.size + 1, 1, none⟩ = false) := fun W hW => ⟨⟨cell_below r0 hW, cell_below r1 hW⟩, (hW.frozen (p := ⟨w.heap.size + 1, 0, none⟩) (by show w.heap.size + 1 < w2.heap.size; omega)).trans (f0 0), (hW.frozen (p := ⟨w.heap.size + 1, 1, none⟩) (by show w.heap.size + 1 < w2.heap.size; omega)).trans (f0 1)⟩
    have Qf := hid_ qf
    clear qf r0 r1 f0
    go_enter Try.func37, Try.ntmps37
    go_wp2_with (go_at_call 62; (with_reducible refine (HE.out _).mono ?_); rintro e w3 ⟨rfl, hc3⟩; have hb3 := (below_alloc w2 (.cells #[.int .i64 i, .int .i64 j] 3)).trans (hc3.mono (below_alloc w2 (.cells #[.int .i64 i, .int .i64 j] 3)).size); obtain ⟨⟨y0, y1⟩, y2, y3⟩ := Qf.out _ hb3)
    obtain ⟨t0, t1⟩ := cells_two y0 y1 (.slice none 0 0) (.slice none 0 0)
    refine bodyPost_ret (v := .tuple #[.agg #[.slice none 0 0, .slice none 0 0], .int .i64 x]) ?_ rfl ⟨_, rfl, MadeP6.zero ?_⟩
    · simp [results, Try.results37, go_sem, t0, t1]
    · have hf : Below w.heap.size w w3 := Hb2.out.trans (hb3.mono Hb2.out.size)
      exact (hf.setCell (p := ⟨w.heap.size + 1, 0, none⟩) (by show _ ≤ _ + 1; omega) _).setCell (p := ⟨w.heap.size + 1, 1, none⟩) (by show _ ≤ _ + 1; omega) _
end Go.Proofs.Ytdnlpikfibdjoaa
namespace Go.Proofs.Ytdnlpikfibdjoaa
open Go.RowKit Go.Proofs.Kv Go

/-! ### Swap of the document -/
theorem far_two (w : World) {a : Addr} {d : Nat} (h : ¬ a.block = d) (u v : Value) : ((w.setCell ⟨d, 0, none⟩ u).setCell ⟨d, 1, none⟩ v).cell? a = w.cell? a := by
  rw [World.cell?_setCell_other _ _ _ _ (fun e => h (by rw [← e])), World.cell?_setCell_other _ _ _ _ (fun e => h (by rw [← e]))]
end Go.Proofs.Ytdnlpikfibdjoaa
