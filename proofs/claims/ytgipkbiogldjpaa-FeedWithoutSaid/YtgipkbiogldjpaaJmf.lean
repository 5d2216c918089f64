import Derived.Test.YtgipkbiogldjpaaJl
import Derived.Test.YtgipkbiogldjpaaJyc
import Derived.Test.YtgipkbiogldjpaaJyd
namespace Go.Proofs.Ytgipkbiogldjpaa
open Go.RowKit Go.Proofs.Kv

/-! ### what stays while numbers are written into new rows of numbers -/
structure Mut (B : Nat) (ws wr : World) : Prop where
  bel : Below B ws wr
  ty : ∀ (b : Nat) (cur : Array Value), ws.heap[b]? = some (.cells cur 3 (0, 0)) → ∃ cur' : Array Value, wr.heap[b]? = some (.cells cur' 3 (0, 0)) ∧ cur'.size = cur.size
  oth : ∀ (b : Nat) (cur : Array Value) (T : TypeId), ws.heap[b]? = some (.cells cur T (0, 0)) → T ≠ 3 → wr.heap[b]? = ws.heap[b]?
theorem Mut.refl (B : Nat) (w : World) : Mut B w w := ⟨Below.refl _ _, fun _ cur h => ⟨cur, h, rfl⟩, fun _ _ _ _ _ => rfl⟩
theorem Mut.set {B : Nat} {ws wr : World} (h : Mut B ws wr) {b i : Nat} {cur : Array Value} (hb : ws.heap[b]? = some (.cells cur 3 (0, 0))) (hB : B ≤ b) (u : Value) : Mut B ws (wr.setCell ⟨b, i, none⟩ u) := by
  refine ⟨h.bel.setCell (p := ⟨b, i, none⟩) hB u, fun b' cur' hb' => ?_, fun b' cur' T hb' hT => ?_⟩
  · obtain ⟨c2, e2, s2⟩ := h.ty b' cur' hb'
    by_cases e : b' = b
    · subst e
      exact ⟨_, Go.Joins.block_setCell e2 (i := i) u, by rw [Array.size_setIfInBounds]; exact s2⟩
    · exact ⟨c2, (Below.heap_setCell wr ⟨b, i, none⟩ u b' e).trans e2, s2⟩
  · have e : b' ≠ b := fun e => by
      subst e
      rw [hb] at hb'; injection hb' with hb'; injection hb' with _ q _; exact hT q.symm
    exact (Below.heap_setCell wr ⟨b, i, none⟩ u b' e).trans (h.oth b' cur' T hb' hT)
theorem OwnRs.toAt {w : World} {B : Nat} {v : Value} {L : List Rl} (h : OwnRs true w B v L) {i : Nat} (hi : i < L.length) :
    ∃ g cp a1 n1 c1 cur, v = .slice (some ⟨g, 0, none⟩) L.length cp ∧ w.heap[g]? = some (.cells cur 53 (0, 0)) ∧ w.cell? ⟨g, i * 4 + 1, none⟩ = some (.slice a1 n1 c1) ∧ n1 ≤ 9223372036854775807 ∧
      ∀ j, j < n1 → ∃ b off cur, a1 = some ⟨b, off, none⟩ ∧ B ≤ b ∧ w.heap[b]? = some (.cells cur 3 (0, 0)) ∧ off + j < cur.size := by
  obtain ⟨vs, h0, h1, h2⟩ := h
  obtain ⟨g, cp, rfl⟩ := own_slice h1 (by omega)
  have hv : vs[i]? = some vs[i] := List.getElem?_eq_getElem (by omega)
  have hr := h2 i _ hv
  obtain ⟨e0, e1, e2, e3⟩ := encRc_at vs i _ hv
  obtain ⟨⟨a1, n1, c1, q1, i1, d1⟩, t1⟩ := hr.o
  obtain ⟨cur, hg⟩ := own_obj h1 (b := g) rfl
  have hc := h1.cells (g := g) rfl _ _ e1
  rw [q1, show (⟨g, 0, none⟩ : Addr).add (i * 4 + 1) = ⟨g, i * 4 + 1, none⟩ by unfold Addr.add; split <;> simp_all] at hc
  refine ⟨g, cp, a1, n1, c1, cur, rfl, hg, hc, Nat.le_trans i1.le i1.small, fun j hj => ?_⟩
  obtain ⟨b, off, ha, hb, hcell⟩ := i1.cells j hj
  obtain ⟨cur', hb'⟩ := t1 rfl a1 n1 c1 b off q1 (by omega) ha
  refine ⟨b, off, cur', ha, (d1 b off (by omega) ha).1, hb', ?_⟩
  rw [Go.Joins.cell_of_block hb'] at hcell
  rcases Nat.lt_or_ge (off + j) cur'.size with q | q
  · exact q
  · rw [Array.getElem?_eq_none q] at hcell; cases hcell
theorem Mut.cellAt {B : Nat} {ws wr : World} (h : Mut B ws wr) {b off j : Nat} {cur : Array Value} (hb : ws.heap[b]? = some (.cells cur 3 (0, 0))) (hj : off + j < cur.size) : ∃ v, wr.cell? ⟨b, off + j, none⟩ = some v ∧ wr.frozen? ⟨b, off + j, none⟩ = false := by
  obtain ⟨c2, e2, s2⟩ := h.ty b cur hb
  exact ⟨c2[off + j]'(by omega), by rw [Go.Joins.cell_of_block e2]; exact Array.getElem?_eq_getElem (by omega), Go.Joins.unfrozen_of_block e2 _⟩
theorem bigS_lens {L : List Rl} (h : bigS L = false) : L.length ≤ 1000 ∧ ∀ R ∈ L, R.o.length ≤ 1000 ∧ R.le.length ≤ 1000 ∧ R.ri.length ≤ 1000 := by
  rw [bigS, Bool.or_eq_false_iff] at h
  obtain ⟨h1, h2⟩ := h
  have h3 := of_decide_eq_false h1
  refine ⟨by omega, fun R hR => ?_⟩
  have h4 := List.any_eq_false.1 h2 R hR
  simp [bigR, bigOne2] at h4
  omega
set_option maxRecDepth 100000 in
set_option maxHeartbeats 8000000 in
theorem feedWithout_calls (A : Option Addr) (N C : Nat) (L : List Rl) (x : Int) (a : Option Addr) (n c : Nat) (l : List Int) (w : World) (h : RulesAt w A N C L) (hI : IntsAt w a n c l) :
    Calls Try.prog 6 #[.slice A N C, .int .i64 x, .slice a n c] w fun e w' => e = .returned (.bool true) ∧ Below w.heap.size w w' := by
  obtain rfl := h.len
  have HK := hid_ known3_calls
  have HG := hid_ (long3_calls A _ C L w h)
  have HB := hid_ (fun W (hW : Below w.heap.size w W) => large3_calls a n c l W (hI.below hW (Nat.le_refl _)))
  have HR := hid_ (fun W (hW : Below w.heap.size w W) => h.below hW (Nat.le_refl _))
  have HI := hid_ (fun W (hW : Below w.heap.size w W) => hI.below hW (Nat.le_refl _))
  clear h hI
  cases hg : bigS L with
  | true =>
    rw [hg] at HG
    go_enter Try.func6, Try.ntmps6
    go_wp2_with (first
      | (go_at_call 8; (with_reducible refine HG.out.mono ?_); rintro e w2 ⟨rfl, hb2⟩)
      | (go_at_call 10; (with_reducible refine (HK.out _).mono ?_); rintro e w3 ⟨rfl, hb3⟩))
    go_ret
    exact ⟨rfl, hb2.trans (hb3.mono hb2.size)⟩
  | false =>
    rw [hg] at HG
    obtain ⟨hN, hLe⟩ := bigS_lens hg
    have HLe := hid_ hLe
    clear hLe
    cases hl : bigOne3 l with
    | true =>
      rw [hl] at HB
      go_enter Try.func6, Try.ntmps6
      go_wp2_with (first
        | (go_at_call 8; (with_reducible refine HG.out.mono ?_); rintro e w2 ⟨rfl, hb2⟩)
        | (go_at_call 9; (with_reducible refine (HB.out w2 hb2).mono ?_); rintro e w3 ⟨rfl, rfl⟩)
        | (go_at_call 10; (with_reducible refine (HK.out _).mono ?_); rintro e w3 ⟨rfl, hb3⟩))
      go_ret
      exact ⟨rfl, hb2.trans (hb3.mono hb2.size)⟩
    | false =>
      rw [hl] at HB
      clear hg hl
      have HCp := hid_ (fun W (hW : Below w.heap.size w W) => r3Copy_calls A _ C L W (HR.out W hW) hN HLe.out)
      have HSo := hid_ (fun A C A' C' W (h1 : RulesAt W A L.length C L) (h2 : RulesAt W A' L.length C' L) => sameS_calls A _ C A' C' L W h1 h2)
      have HSm := hid_ (fun A C A' C' W (h1 : RulesAt W A (resWithout L x).length C (resWithout L x)) (h2 : RulesAt W A' (resWithout L x).length C' (resWithout L x)) => sameS_calls A _ C A' C' (resWithout L x) W h1 h2)
      have HFw := hid_ (fun A C W (h1 : RulesAt W A L.length C L) => feWithout_calls A _ C L x W h1)
      have HRw := hid_ (fun W (h1 : RulesAt W A L.length C L) => r3Without_calls A _ C L x W h1)
      have HF1 := hid_ (fun W (h1 : RulesAt W A L.length C L) (h2 : IntsAt W a n c l) => feReach_calls A _ C L a n c l W h1 h2)
      have HF2 := hid_ (fun A C W (h1 : RulesAt W A (resWithout L x).length C (resWithout L x)) (h2 : IntsAt W a n c l) => feReach_calls A _ C (resWithout L x) a n c l W h1 h2)
      by_cases hz : errWithout L x = 0
      · by_cases hg : errWeb L l = 0
        · obtain ⟨hp1, hp2⟩ := part_less hz hg
          have HPt := hid_ (fun a n c W a' n' c' (h1 : ListsAt W a n c (resReach (resWithout L x) l)) (h2 : ListsAt W a' n' c' (resReach L l)) => show Calls Try.prog 14 #[.slice a n c, .slice a' n' c'] W fun e w' => e = .returned (.bool true) ∧ Below W.heap.size W w' from (partL_calls a n c _ a' n' c' _ W h1 h2).mono fun e w' ⟨he, hq⟩ => ⟨by rw [he, hp2], below_drew hq⟩)
          rw [hz] at HFw HRw
          rw [hg] at HF1
          rw [hp1] at HF2
          clear hz hg hp1 hp2
          generalize resReach L l = S1 at *
          generalize resReach (resWithout L x) l = S2 at *
          go_enter Try.func6, Try.ntmps6
          go_wp2_with (first
            | (go_at_call 8; (with_reducible refine HG.out.mono ?_); rintro e w2 ⟨rfl, hb2⟩)
            | (go_at_call 9; (with_reducible refine (HB.out w2 hb2).mono ?_); rintro e w3 ⟨rfl, rfl⟩)
            | (go_at_call 25; (with_reducible refine (HCp.out w2 hb2).mono ?_); rintro e w3 ⟨v3, rfl, hO3, hc3⟩; have hb3 := hb2.trans (hc3.mono hb2.size); obtain ⟨a3, c3, rfl, hR3⟩ := hO3.at_; have HR3 := hid_ hR3; clear hR3 hO3)
            | (go_at_call 26; (with_reducible refine (HFw.out a3 c3 w3 HR3.out).mono ?_); rintro e w4 ⟨v4, rfl, hO4, hc4⟩; have hb4 := hb3.trans (hc4.mono hb3.size); have HO4 := hid_ hO4; obtain ⟨a4, c4, rfl, hR4⟩ := hO4.at_; have HR4 := hid_ hR4; clear hR4 hO4)
            | (go_at_call 27; (with_reducible refine (HRw.out w4 (HR.out w4 hb4)).mono ?_); rintro e w5 ⟨a5, c5, rfl, hR5, hc5⟩; have hb5 := hb4.trans (hc5.mono hb4.size); have HR5 := hid_ hR5; have HR45 := hid_ (HR4.out.below hc5 (Nat.le_refl _)); clear hR5)
            | (go_at_call 28; (with_reducible refine (HSm.out _ _ _ _ w5 HR45.out HR5.out).mono ?_); rintro e w6 ⟨rfl, hc6⟩; have hb6 := hb5.trans (hc6.mono hb5.size); have HR46 := hid_ (HR45.out.below hc6 (Nat.le_refl _)))
            | (go_at_call 11; (with_reducible refine (HF1.out w6 (HR.out w6 hb6) (HI.out w6 hb6)).mono ?_); rintro e w7 ⟨v7, rfl, hO7, hc7⟩; have hb7 := hb6.trans (hc7.mono hb6.size); obtain ⟨a7, c7, rfl, hi7⟩ := hO7.at_; have Hi7 := hid_ hi7; have HR47 := hid_ (HR46.out.below hc7 (Nat.le_refl _)); clear hi7 hO7)
            | (go_at_call 11; (with_reducible refine (HF2.out a4 c4 w7 HR47.out (HI.out w7 hb7)).mono ?_); rintro e w8 ⟨v8, rfl, hO8, hc8⟩; have hb8 := hb7.trans (hc8.mono hb7.size); obtain ⟨a8, c8, rfl, hi8⟩ := hO8.at_; have Hi8 := hid_ hi8; have Hi78 := hid_ (Hi7.out.below hc8 (Nat.le_refl _)); clear hi8 hO8)
            | (go_at_call 14; (with_reducible refine (HPt.out _ _ _ w8 _ _ _ Hi8.out Hi78.out).mono ?_); rintro e w9 ⟨rfl, hc9⟩))
          have hc89 := hc9
          have hc49 : Below w4.heap.size w4 w9 := hc5.trans ((hc6.trans ((hc7.trans ((hc8.trans (hc89.mono hc8.size)).mono hc7.size)).mono hc6.size)).mono hc5.size)
          have HO9 := hid_ (HO4.out.next hc49)
          have hb9 : Below w.heap.size w w9 := hb4.trans (hc49.mono hb4.size)
          have HR39 := hid_ ((HR3.out.below hc4 (Nat.le_refl _)).below hc49 (Nat.le_refl _))
          have hB39 : w3.heap.size ≤ w9.heap.size := Nat.le_trans hc4.size hc49.size
          have HR39b := hid_ (fun W (hW : Below w3.heap.size w9 W) => (HR3.out.below (hc4.trans ((hc49.mono hc4.size).trans hW)) (Nat.le_refl _)))
          have Hfin := hid_ (fun W (hW : Below w3.heap.size w9 W) => hb9.trans (hW.mono hb3.size))
          have hL2 : (resWithout L x).length ≤ 9223372036854775807 := Nat.le_trans HR4.out.le HR4.out.small
          clear hc5 hc6 hc7 hc8 hc89 hc49 hb5 hb6 hb7 hb8 hb9 hc9
          go_loopw [17] (fun i wr => ∃ k : Nat, k ≤ (resWithout L x).length ∧ i = .int .i64 k ∧ Mut w3.heap.size w9 wr) (fun i _ => (resWithout L x).length - (intOf i).toNat)
          case atStart => exact ⟨0, Nat.zero_le _, rfl, Mut.refl _ _⟩
          case round =>
            obtain ⟨k, hk, rfl, hM⟩ := hrel
            by_cases hlt : k < (resWithout L x).length
            · obtain ⟨g, cp, a1, n1, c1, cur, e, hgb, hcl, hn1, hto⟩ := HO9.out.toAt hlt
              injection e with e1 _ e3
              subst e1; subst e3
              have Hcl := hid_ (fun W (hW : Mut w3.heap.size w9 W) => (World.cell?_of_block (w := w9) (w' := W) (a := ⟨g, k * 4 + 1, none⟩) (hW.oth g cur _ hgb (by decide))).trans hcl)
              have Hto := hid_ hto; have HM := hid_ hM
              clear hto hM hgb hcl
              go_wp2
              obtain ⟨wo, rfl⟩ : ∃ wo, wo = wr := ⟨_, rfl⟩
              go_loopw [18] (fun i2 wr2 => ∃ j : Nat, j ≤ n1 ∧ i2 = .int .i64 j ∧ Mut w3.heap.size w9 wr2) (fun i2 _ => n1 - (intOf i2).toNat)
              case atStart => exact ⟨0, Nat.zero_le _, rfl, HM.out⟩
              case round =>
                obtain ⟨j, hj, rfl, hM2⟩ := hrel
                have q1 := Hcl.out wr hM2
                by_cases hlt2 : j < n1
                · obtain ⟨b, off, cur2, rfl, hBb, hb2c, hj2⟩ := Hto.out j hlt2
                  obtain ⟨v0, q2, q3⟩ := hM2.cellAt hb2c hj2
                  have HM3 := hid_ (hM2.set hb2c hBb (i := off + j) (.int .i64 (-9)))
                  clear hM2 hb2c
                  go_wp2
                  go_roundw
                  case rel => exact ⟨j + 1, by omega, by go_num, HM3.out⟩
                  case measure => simp [intOf]; omega
                · obtain rfl : n1 = j := by omega
                  go_wp2
                  go_roundw
                  case rel => exact ⟨k + 1, by omega, by go_num, hM2⟩
                  case measure => simp [intOf]; omega
            · have hnl : ¬ (k : Int) < ((resWithout L x).length : Int) := by omega
              have HM := hid_ hM
              clear hM
              go_wp2_with (first
                | (go_at_call 28; (with_reducible refine (HSo.out _ _ _ _ wr (HR39b.out wr HM.out.bel) (HR.out wr (Hfin.out wr HM.out.bel))).mono ?_); rintro e w10 ⟨rfl, hc10⟩; have hb10 := (Hfin.out wr HM.out.bel).trans (hc10.mono (Hfin.out wr HM.out.bel).size))
                | (go_at_call 10; (with_reducible refine (HK.out _).mono ?_); rintro e wk ⟨rfl, hbk⟩))
              go_ret
              exact ⟨rfl, hb10.trans (hbk.mono hb10.size)⟩
        · skip
          have hq : (errWeb L l != 0) = true := by simpa using hg
          rw [hz] at HFw HRw
          generalize errWeb L l = y1 at *
          generalize errWeb (resWithout L x) l = y2 at *
          clear hz hg
          generalize resReach L l = S1 at *
          generalize resReach (resWithout L x) l = S2 at *
          go_enter Try.func6, Try.ntmps6
          go_wp2_with (first
            | (go_at_call 8; (with_reducible refine HG.out.mono ?_); rintro e w2 ⟨rfl, hb2⟩)
            | (go_at_call 9; (with_reducible refine (HB.out w2 hb2).mono ?_); rintro e w3 ⟨rfl, rfl⟩)
            | (go_at_call 25; (with_reducible refine (HCp.out w2 hb2).mono ?_); rintro e w3 ⟨v3, rfl, hO3, hc3⟩; have hb3 := hb2.trans (hc3.mono hb2.size); obtain ⟨a3, c3, rfl, hR3⟩ := hO3.at_; have HR3 := hid_ hR3; clear hR3 hO3)
            | (go_at_call 26; (with_reducible refine (HFw.out a3 c3 w3 HR3.out).mono ?_); rintro e w4 ⟨v4, rfl, hO4, hc4⟩; have hb4 := hb3.trans (hc4.mono hb3.size); have HO4 := hid_ hO4; obtain ⟨a4, c4, rfl, hR4⟩ := hO4.at_; have HR4 := hid_ hR4; clear hR4 hO4)
            | (go_at_call 27; (with_reducible refine (HRw.out w4 (HR.out w4 hb4)).mono ?_); rintro e w5 ⟨a5, c5, rfl, hR5, hc5⟩; have hb5 := hb4.trans (hc5.mono hb4.size); have HR5 := hid_ hR5; have HR45 := hid_ (HR4.out.below hc5 (Nat.le_refl _)); clear hR5)
            | (go_at_call 28; (with_reducible refine (HSm.out _ _ _ _ w5 HR45.out HR5.out).mono ?_); rintro e w6 ⟨rfl, hc6⟩; have hb6 := hb5.trans (hc6.mono hb5.size); have HR46 := hid_ (HR45.out.below hc6 (Nat.le_refl _)))
            | (go_at_call 11; (with_reducible refine (HF1.out w6 (HR.out w6 hb6) (HI.out w6 hb6)).mono ?_); rintro e w7 ⟨v7, rfl, hO7, hc7⟩; have hb7 := hb6.trans (hc7.mono hb6.size); obtain ⟨a7, c7, rfl, hi7⟩ := hO7.at_; have Hi7 := hid_ hi7; have HR47 := hid_ (HR46.out.below hc7 (Nat.le_refl _)); clear hi7 hO7)
            | (go_at_call 11; (with_reducible refine (HF2.out a4 c4 w7 HR47.out (HI.out w7 hb7)).mono ?_); rintro e w8 ⟨v8, rfl, hO8, hc8⟩; have hb8 := hb7.trans (hc8.mono hb7.size); obtain ⟨a8, c8, rfl, hi8⟩ := hO8.at_; have Hi8 := hid_ hi8; have Hi78 := hid_ (Hi7.out.below hc8 (Nat.le_refl _)); clear hi8 hO8))
          obtain ⟨w9, rfl⟩ : ∃ w9, w9 = w8 := ⟨_, rfl⟩
          have hc89 : Below w9.heap.size w9 w9 := Below.refl _ _
          have hc49 : Below w4.heap.size w4 w9 := hc5.trans ((hc6.trans ((hc7.trans ((hc8.trans (hc89.mono hc8.size)).mono hc7.size)).mono hc6.size)).mono hc5.size)
          have HO9 := hid_ (HO4.out.next hc49)
          have hb9 : Below w.heap.size w w9 := hb4.trans (hc49.mono hb4.size)
          have HR39 := hid_ ((HR3.out.below hc4 (Nat.le_refl _)).below hc49 (Nat.le_refl _))
          have hB39 : w3.heap.size ≤ w9.heap.size := Nat.le_trans hc4.size hc49.size
          have HR39b := hid_ (fun W (hW : Below w3.heap.size w9 W) => (HR3.out.below (hc4.trans ((hc49.mono hc4.size).trans hW)) (Nat.le_refl _)))
          have Hfin := hid_ (fun W (hW : Below w3.heap.size w9 W) => hb9.trans (hW.mono hb3.size))
          have hL2 : (resWithout L x).length ≤ 9223372036854775807 := Nat.le_trans HR4.out.le HR4.out.small
          clear hc5 hc6 hc7 hc8 hc89 hc49 hb5 hb6 hb7 hb8 hb9
          go_loopw [17] (fun i wr => ∃ k : Nat, k ≤ (resWithout L x).length ∧ i = .int .i64 k ∧ Mut w3.heap.size w9 wr) (fun i _ => (resWithout L x).length - (intOf i).toNat)
          case atStart => exact ⟨0, Nat.zero_le _, rfl, Mut.refl _ _⟩
          case round =>
            obtain ⟨k, hk, rfl, hM⟩ := hrel
            by_cases hlt : k < (resWithout L x).length
            · obtain ⟨g, cp, a1, n1, c1, cur, e, hgb, hcl, hn1, hto⟩ := HO9.out.toAt hlt
              injection e with e1 _ e3
              subst e1; subst e3
              have Hcl := hid_ (fun W (hW : Mut w3.heap.size w9 W) => (World.cell?_of_block (w := w9) (w' := W) (a := ⟨g, k * 4 + 1, none⟩) (hW.oth g cur _ hgb (by decide))).trans hcl)
              have Hto := hid_ hto; have HM := hid_ hM
              clear hto hM hgb hcl
              go_wp2
              obtain ⟨wo, rfl⟩ : ∃ wo, wo = wr := ⟨_, rfl⟩
              go_loopw [18] (fun i2 wr2 => ∃ j : Nat, j ≤ n1 ∧ i2 = .int .i64 j ∧ Mut w3.heap.size w9 wr2) (fun i2 _ => n1 - (intOf i2).toNat)
              case atStart => exact ⟨0, Nat.zero_le _, rfl, HM.out⟩
              case round =>
                obtain ⟨j, hj, rfl, hM2⟩ := hrel
                have q1 := Hcl.out wr hM2
                by_cases hlt2 : j < n1
                · obtain ⟨b, off, cur2, rfl, hBb, hb2c, hj2⟩ := Hto.out j hlt2
                  obtain ⟨v0, q2, q3⟩ := hM2.cellAt hb2c hj2
                  have HM3 := hid_ (hM2.set hb2c hBb (i := off + j) (.int .i64 (-9)))
                  clear hM2 hb2c
                  go_wp2
                  go_roundw
                  case rel => exact ⟨j + 1, by omega, by go_num, HM3.out⟩
                  case measure => simp [intOf]; omega
                · obtain rfl : n1 = j := by omega
                  go_wp2
                  go_roundw
                  case rel => exact ⟨k + 1, by omega, by go_num, hM2⟩
                  case measure => simp [intOf]; omega
            · have hnl : ¬ (k : Int) < ((resWithout L x).length : Int) := by omega
              have HM := hid_ hM
              clear hM
              go_wp2_with (first
                | (go_at_call 28; (with_reducible refine (HSo.out _ _ _ _ wr (HR39b.out wr HM.out.bel) (HR.out wr (Hfin.out wr HM.out.bel))).mono ?_); rintro e w10 ⟨rfl, hc10⟩; have hb10 := (Hfin.out wr HM.out.bel).trans (hc10.mono (Hfin.out wr HM.out.bel).size))
                | (go_at_call 10; (with_reducible refine (HK.out _).mono ?_); rintro e wk ⟨rfl, hbk⟩))
              go_ret
              exact ⟨rfl, hb10.trans (hbk.mono hb10.size)⟩
      · skip
        have hq : (errWithout L x != 0) = true := by simpa using hz
        generalize errWithout L x = z at *
        generalize errWeb L l = y1 at *
        generalize errWeb (resWithout L x) l = y2 at *
        clear hz
        generalize resReach L l = S1 at *
        generalize resReach (resWithout L x) l = S2 at *
        go_enter Try.func6, Try.ntmps6
        go_wp2_with (first
          | (go_at_call 8; (with_reducible refine HG.out.mono ?_); rintro e w2 ⟨rfl, hb2⟩)
          | (go_at_call 9; (with_reducible refine (HB.out w2 hb2).mono ?_); rintro e w3 ⟨rfl, rfl⟩)
          | (go_at_call 25; (with_reducible refine (HCp.out w2 hb2).mono ?_); rintro e w3 ⟨v3, rfl, hO3, hc3⟩; have hb3 := hb2.trans (hc3.mono hb2.size); obtain ⟨a3, c3, rfl, hR3⟩ := hO3.at_; have HR3 := hid_ hR3; clear hR3 hO3)
          | (go_at_call 26; (with_reducible refine (HFw.out a3 c3 w3 HR3.out).mono ?_); rintro e w4 ⟨v4, rfl, hO4, hc4⟩; have hb4 := hb3.trans (hc4.mono hb3.size); have HO4 := hid_ hO4; obtain ⟨a4, c4, rfl, hR4⟩ := hO4.at_; have HR4 := hid_ hR4; clear hR4 hO4)
          | (go_at_call 27; (with_reducible refine (HRw.out w4 (HR.out w4 hb4)).mono ?_); rintro e w5 ⟨a5, c5, rfl, hR5, hc5⟩; have hb5 := hb4.trans (hc5.mono hb4.size); have HR5 := hid_ hR5; have HR45 := hid_ (HR4.out.below hc5 (Nat.le_refl _)); clear hR5)
          | (go_at_call 28; (with_reducible refine (HSm.out _ _ _ _ w5 HR45.out HR5.out).mono ?_); rintro e w6 ⟨rfl, hc6⟩; have hb6 := hb5.trans (hc6.mono hb5.size); have HR46 := hid_ (HR45.out.below hc6 (Nat.le_refl _)))
          | (go_at_call 11; (with_reducible refine (HF1.out w6 (HR.out w6 hb6) (HI.out w6 hb6)).mono ?_); rintro e w7 ⟨v7, rfl, hO7, hc7⟩; have hb7 := hb6.trans (hc7.mono hb6.size); obtain ⟨a7, c7, rfl, hi7⟩ := hO7.at_; have Hi7 := hid_ hi7; have HR47 := hid_ (HR46.out.below hc7 (Nat.le_refl _)); clear hi7 hO7)
          | (go_at_call 11; (with_reducible refine (HF2.out a4 c4 w7 HR47.out (HI.out w7 hb7)).mono ?_); rintro e w8 ⟨v8, rfl, hO8, hc8⟩; have hb8 := hb7.trans (hc8.mono hb7.size); obtain ⟨a8, c8, rfl, hi8⟩ := hO8.at_; have Hi8 := hid_ hi8; have Hi78 := hid_ (Hi7.out.below hc8 (Nat.le_refl _)); clear hi8 hO8))
        obtain ⟨w9, rfl⟩ : ∃ w9, w9 = w8 := ⟨_, rfl⟩
        have hc89 : Below w9.heap.size w9 w9 := Below.refl _ _
        have hc49 : Below w4.heap.size w4 w9 := hc5.trans ((hc6.trans ((hc7.trans ((hc8.trans (hc89.mono hc8.size)).mono hc7.size)).mono hc6.size)).mono hc5.size)
        have HO9 := hid_ (HO4.out.next hc49)
        have hb9 : Below w.heap.size w w9 := hb4.trans (hc49.mono hb4.size)
        have HR39 := hid_ ((HR3.out.below hc4 (Nat.le_refl _)).below hc49 (Nat.le_refl _))
        have hB39 : w3.heap.size ≤ w9.heap.size := Nat.le_trans hc4.size hc49.size
        have HR39b := hid_ (fun W (hW : Below w3.heap.size w9 W) => (HR3.out.below (hc4.trans ((hc49.mono hc4.size).trans hW)) (Nat.le_refl _)))
        have Hfin := hid_ (fun W (hW : Below w3.heap.size w9 W) => hb9.trans (hW.mono hb3.size))
        have hL2 : (resWithout L x).length ≤ 9223372036854775807 := Nat.le_trans HR4.out.le HR4.out.small
        clear hc5 hc6 hc7 hc8 hc89 hc49 hb5 hb6 hb7 hb8 hb9
        go_loopw [17] (fun i wr => ∃ k : Nat, k ≤ (resWithout L x).length ∧ i = .int .i64 k ∧ Mut w3.heap.size w9 wr) (fun i _ => (resWithout L x).length - (intOf i).toNat)
        case atStart => exact ⟨0, Nat.zero_le _, rfl, Mut.refl _ _⟩
        case round =>
          obtain ⟨k, hk, rfl, hM⟩ := hrel
          by_cases hlt : k < (resWithout L x).length
          · obtain ⟨g, cp, a1, n1, c1, cur, e, hgb, hcl, hn1, hto⟩ := HO9.out.toAt hlt
            injection e with e1 _ e3
            subst e1; subst e3
            have Hcl := hid_ (fun W (hW : Mut w3.heap.size w9 W) => (World.cell?_of_block (w := w9) (w' := W) (a := ⟨g, k * 4 + 1, none⟩) (hW.oth g cur _ hgb (by decide))).trans hcl)
            have Hto := hid_ hto; have HM := hid_ hM
            clear hto hM hgb hcl
            go_wp2
            obtain ⟨wo, rfl⟩ : ∃ wo, wo = wr := ⟨_, rfl⟩
            go_loopw [18] (fun i2 wr2 => ∃ j : Nat, j ≤ n1 ∧ i2 = .int .i64 j ∧ Mut w3.heap.size w9 wr2) (fun i2 _ => n1 - (intOf i2).toNat)
            case atStart => exact ⟨0, Nat.zero_le _, rfl, HM.out⟩
            case round =>
              obtain ⟨j, hj, rfl, hM2⟩ := hrel
              have q1 := Hcl.out wr hM2
              by_cases hlt2 : j < n1
              · obtain ⟨b, off, cur2, rfl, hBb, hb2c, hj2⟩ := Hto.out j hlt2
                obtain ⟨v0, q2, q3⟩ := hM2.cellAt hb2c hj2
                have HM3 := hid_ (hM2.set hb2c hBb (i := off + j) (.int .i64 (-9)))
                clear hM2 hb2c
                go_wp2
                go_roundw
                case rel => exact ⟨j + 1, by omega, by go_num, HM3.out⟩
                case measure => simp [intOf]; omega
              · obtain rfl : n1 = j := by omega
                go_wp2
                go_roundw
                case rel => exact ⟨k + 1, by omega, by go_num, hM2⟩
                case measure => simp [intOf]; omega
          · have hnl : ¬ (k : Int) < ((resWithout L x).length : Int) := by omega
            have HM := hid_ hM
            clear hM
            go_wp2_with (first
              | (go_at_call 28; (with_reducible refine (HSo.out _ _ _ _ wr (HR39b.out wr HM.out.bel) (HR.out wr (Hfin.out wr HM.out.bel))).mono ?_); rintro e w10 ⟨rfl, hc10⟩; have hb10 := (Hfin.out wr HM.out.bel).trans (hc10.mono (Hfin.out wr HM.out.bel).size))
              | (go_at_call 10; (with_reducible refine (HK.out _).mono ?_); rintro e wk ⟨rfl, hbk⟩))
            go_ret
            exact ⟨rfl, hb10.trans (hbk.mono hb10.size)⟩
end Go.Proofs.Ytgipkbiogldjpaa
