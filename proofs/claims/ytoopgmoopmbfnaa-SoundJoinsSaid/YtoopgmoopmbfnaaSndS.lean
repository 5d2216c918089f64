import Derived.Test.YtoopgmoopmbfnaaSndR
namespace Go.Proofs.Ytoopgmoopmbfnaa
open Go.RowKit Go.Proofs.Kv Go.Proofs.Snd

/-! ### Named -/
def namedL (L : List (List Int)) (s : List Int) : List (Int × Int) := (namesR L).filter fun p => Same (standL L p.1 p.2) s
def namedErr (L : List (List Int)) (s : List Int) : Int := if validT L = 0 then (if IsSet s 0 5 then 0 else 1) else validT L
def namedRes (L : List (List Int)) (s : List Int) : List (Int × Int) := if namedErr L s = 0 then namedL L s else []
theorem kept_named (L : List (List Int)) (s : List Int) : kept (fun p => !Same (standL L p.1 p.2) s) (namesR L) = namedL L s := by
  unfold kept namedL
  congr 1
  funext p
  simp
set_option maxRecDepth 100000 in
theorem sndNamed_calls (a : Option Addr) (n c : Nat) (L : List (List Int)) (a' : Option Addr) (n' c' : Nat) (s : List Int) (w : World) (h : ListsAt w a n c L) (h' : IntsAt w a' n' c' s) :
    Calls Try.prog 47 #[.slice a n c, .slice a' n' c'] w fun e w' => ∃ v, e = .returned (.tuple #[v, .int .i64 (namedErr L s)]) ∧ MadeP 71 w w' v (namedRes L s) := by
  obtain ⟨w1, hw1⟩ : ∃ w1, (w.alloc (.cells #[.slice a n c] 22)).alloc (.cells #[.slice a' n' c'] 23) = w1 := ⟨_, rfl⟩
  have hb1 : Below w.heap.size w w1 := by rw [← hw1]; exact ((Below.refl _ w).alloc (Nat.le_refl _) _).alloc (by simp) _
  have c0 : w1.cell? ⟨w.heap.size, 0, none⟩ = some (.slice a n c) := by rw [← hw1, World.cell?_alloc_past _ _ _ (by simp), World.cell?_alloc_at _ _ _ _ rfl]; rfl
  have c1 : w1.cell? ⟨w.heap.size + 1, 0, none⟩ = some (.slice a' n' c') := by rw [← hw1, World.cell?_alloc_at _ _ _ _ (by simp)]; rfl
  have hz : w.heap.size + 1 < w1.heap.size := by rw [← hw1]; simp
  have Hcap : Hid (∀ W, Below w1.heap.size w1 W → W.cell? ⟨w.heap.size, 0, none⟩ = some (.slice a n c) ∧ W.cell? ⟨w.heap.size + 1, 0, none⟩ = some (.slice a' n' c')) := hid_ fun W hW =>
    ⟨(hW.cell (p := ⟨w.heap.size, 0, none⟩) (by show w.heap.size < _; omega)).trans c0, (hW.cell (p := ⟨w.heap.size + 1, 0, none⟩) hz).trans c1⟩
  have HL : Hid (∀ W, Below w1.heap.size w1 W → ListsAt W a n c L ∧ IntsAt W a' n' c' s) := hid_ fun W hW =>
    ⟨h.below (hb1.trans (hW.mono hb1.size)) (Nat.le_refl _), h'.below (hb1.trans (hW.mono hb1.size)) (Nat.le_refl _)⟩
  have Hb1 := hid_ hb1
  have hval := sndValidate_calls a n c L w1 (HL.out w1 (Below.refl _ _)).1
  clear hb1
  by_cases he : validT L = 0
  · rw [he] at hval
    have Hv := hid_ hval; clear hval
    have hg := good_of he
    have hn6 : n ≤ 6 := by have := hg.n6; rw [h.len] at this; exact this
    cases hs : IsSet s 0 5 with
    | false =>
      have He : Hid (namedErr L s = 1) := hid_ (by rw [namedErr, if_pos he, hs]; rfl)
      have Hf : Hid (namedRes L s = []) := hid_ (by rw [namedRes, He.out]; rfl)
      have Hset : Hid (∀ W, Below w1.heap.size w1 W → Calls Try.prog 93 #[.slice a' n' c', .int .i64 6] W fun e w' => e = .returned (.bool false) ∧ ∃ q, w' = W.drewN q) := hid_ fun W hW => by
        have := sndIsSet_calls a' n' c' s 6 W (HL.out W hW).2
        rwa [show (6 : Int) - 1 = 5 from rfl, hs] at this
      clear h h' hs he hg
      go_enter Try.func47, Try.ntmps47
      go_wp2_with fail
      refine Hv.out.mono ?_
      rintro e w2 ⟨rfl, hb2⟩
      obtain ⟨d0, d1⟩ := Hcap.out w2 hb2
      go_wp2_with fail
      refine (Hset.out w2 hb2).mono ?_
      rintro e w3 ⟨rfl, q, hq⟩
      have Hb3 : Hid (Below w.heap.size w w3) := hid_ (Hb1.out.trans ((by rw [hq]; exact below_drewN hb2 q : Below w1.heap.size w1 w3).mono Hb1.out.size))
      clear hq hw1
      go_wp2
      go_ret2
      exact ⟨_, by rw [He.out]; rfl, by rw [Hf.out]; exact MadeP.none_ _ Hb3.out⟩
    | true =>
      have He : Hid (namedErr L s = 0) := hid_ (by rw [namedErr, if_pos he, hs]; rfl)
      have Hf : Hid (namedRes L s = kept (fun p => !Same (standL L p.1 p.2) s) (namesR L)) := hid_ (by rw [namedRes, He.out, kept_named]; rfl)
      have Hset : Hid (∀ W, Below w1.heap.size w1 W → Calls Try.prog 93 #[.slice a' n' c', .int .i64 6] W fun e w' => e = .returned (.bool true) ∧ ∃ q, w' = W.drewN q) := hid_ fun W hW => by
        have := sndIsSet_calls a' n' c' s 6 W (HL.out W hW).2
        rwa [show (6 : Int) - 1 = 5 from rfl, hs] at this
      have hns : (rkTo L L.length).mergeSort leP = namesR L := namesS_eq hg
      have Hnm : Hid (∀ W, Below w1.heap.size w1 W → Calls Try.prog 95 #[.slice a n c] W fun e w' => ∃ v, e = .returned v ∧ MadeP 71 W w' v (namesR L)) := hid_ fun W hW => by
        have := sndNames_calls a n c L W (HL.out W hW).1 (by omega) (fun s hs => Nat.le_trans (hg.row s hs) (by omega)) (namesS_pos hg)
        rwa [hns] at this
      have Hask : Hid (∀ W, Below w1.heap.size w1 W → Asks (fun p => !Same (standL L p.1 p.2) s) (namesR L) ⟨w.heap.size, 0, none⟩ ⟨w.heap.size + 1, 0, none⟩ w1.heap.size W) := hid_ fun W hW W' k hW' hk => by
        have hm : (namesR L).getD k (0, 0) ∈ namesR L := by simp [List.getD, List.getElem?_eq_getElem hk]
        obtain ⟨y, hy1, hy2, hy3⟩ := names_in hm hg
        have hX := hW.trans hW'
        have hc := Hcap.out W' hX
        have hl := HL.out W' hX
        have := namedAsk_calls ⟨w.heap.size, 0, none⟩ ⟨w.heap.size + 1, 0, none⟩ a n c L a' n' c' s ((namesR L).getD k (0, 0)).1 y W' hl.1 hl.2 hc.1 hc.2 hg (by have := h.len; omega) hy3
        rw [← hy1] at this
        exact this
      have hN0 : 0 < (namesR L).length := by
        rw [← namesS_eq hg]
        have := namesS_pos hg
        simpa [namesS] using this
      have hN1 : (namesR L).length ≤ 1000000 := by
        rw [← namesS_eq hg]
        have := names_len hg
        simp [namesS]; omega
      clear h h' hs he hg hns
      generalize namesR L = NR at Hf Hnm Hask hN0 hN1
      generalize (fun p : Int × Int => !Same (standL L p.1 p.2) s) = Pq at Hf Hask
      go_enter Try.func47, Try.ntmps47
      go_wp2_with fail
      refine Hv.out.mono ?_
      rintro e w2 ⟨rfl, hb2⟩
      obtain ⟨d0, d1⟩ := Hcap.out w2 hb2
      go_wp2_with fail
      refine (Hset.out w2 hb2).mono ?_
      rintro e w3 ⟨rfl, q, hq⟩
      have hb3 : Below w1.heap.size w1 w3 := by rw [hq]; exact below_drewN hb2 q
      obtain ⟨d2, d3⟩ := Hcap.out w3 hb3
      clear hq d0 d1 hb2
      go_wp2_with fail
      refine (Hnm.out w3 hb3).mono ?_
      rintro e w4 ⟨v4, rfl, hm⟩
      have hb4 : Below w1.heap.size w1 w4 := hb3.trans (hm.bel.mono hb3.size)
      have Hdel := hid_ (deleteFunc_calls Pq ⟨w.heap.size, 0, none⟩ ⟨w.heap.size + 1, 0, none⟩ (own_base hm.own hb3.size) hN0 hN1 hb4.size (Hask.out w4 hb4))
      have Hb4 := hid_ hb4
      clear hm hb4 hb3 d2 d3 hw1
      go_wp2_with fail
      refine Hdel.out.mono ?_
      rintro e w5 ⟨v5, rfl, hown, hb5⟩
      go_wp2
      go_ret2
      exact ⟨v5, by rw [He.out]; rfl, by rw [Hf.out]; exact ⟨own_base hown Hb1.out.size, Hb1.out.trans ((Hb4.out.trans hb5).mono Hb1.out.size)⟩⟩
  · have He : Hid (namedErr L s = validT L) := hid_ (if_neg he)
    have Hf : Hid (namedRes L s = []) := hid_ (by rw [namedRes, if_neg (by rw [He.out]; exact he)])
    generalize validT L = er at hval he He
    have hq : (er != 0) = true := by simpa using he
    have Hv := hid_ hval; clear hval he h h'
    go_enter Try.func47, Try.ntmps47
    go_wp2_with fail
    refine Hv.out.mono ?_
    rintro e w2 ⟨rfl, hb2⟩
    have Hb3 : Hid (Below w.heap.size w w2) := hid_ (Hb1.out.trans (hb2.mono Hb1.out.size))
    clear hw1
    go_wp2
    go_ret2
    exact ⟨_, by rw [He.out]; rfl, by rw [Hf.out]; exact MadeP.none_ _ Hb3.out⟩
end Go.Proofs.Ytoopgmoopmbfnaa
