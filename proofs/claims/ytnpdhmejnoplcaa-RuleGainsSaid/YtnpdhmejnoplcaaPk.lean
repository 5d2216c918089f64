import Derived.Test.YtnpdhmejnoplcaaPj
import Derived.Deep.RegionHeld3
namespace Go.Proofs.Ytnpdhmejnoplcaa
open Go.RowKit Go.Proofs.Kv

/-! ### Along -/
def alongF (R : Rl) : Nat → List Int → Nat → Option (List Int)
  | 0, v, _ => some v
  | k + 1, v, i => if plB R.f R.le R.ri v i then (if 8 < (putL v i (i + tkN R) R.o).length then none else alongF R k (putL v i (i + tkN R) R.o) (i + R.o.length + 1 - tkN R)) else alongF R k v (i + 1)
def alongP (R : Rl) (l : List Int) : Option (List Int) := alongF R (l.length + 1) l 0
def errAlong (R : Rl) (l : List Int) : Int := if err2 R l = 0 then (if (alongP R l).isSome then 0 else 3) else err2 R l
def resAlong (R : Rl) (l : List Int) : List Int := if err2 R l = 0 then (alongP R l).getD [] else []
theorem isWord_put {v o : List Int} {i j : Nat} (hv : isWord v = true) (ho : isWord o = true) : isWord (putL v i j o) = true := by
  rw [isWord, List.all_eq_true] at *
  intro x hx
  simp only [putL, List.mem_append] at hx
  rcases hx with (hx | hx) | hx
  · exact hv x (List.mem_of_mem_take hx)
  · exact ho x hx
  · exact hv x (List.mem_of_mem_drop hx)
theorem pl_fit {R : Rl} {l : List Int} {i : Nat} (h : plB R.f R.le R.ri l i = true) : i + tkN R ≤ l.length := by
  have := (one_ok h).2 (i : Int) (by simp)
  simpa using this.2
set_option maxRecDepth 100000 in
set_option maxHeartbeats 2000000 in
theorem ruAlong_calls (v : Value) (R : Rl) (a : Option Addr) (n c : Nat) (l : List Int) (w : World) (hr : RuleAt w v R) (h : IntsAt w a n c l) :
    Calls Try.prog 44 #[v, .slice a n c] w fun e w' => ∃ v', e = .returned (.tuple #[v', .int .i64 (errAlong R l)]) ∧ Made 3 w w' v' (resAlong R l) := by
  have Hr := hid_ hr
  obtain ⟨a1, n1, c1, a2, n2, c2, a3, n3, c3, rfl, h1, h2, h3⟩ := hr
  clear h1 h2 h3
  obtain ⟨w1, hw1⟩ : ∃ w1, w.alloc (.cells #[.int .i64 R.f, .slice a1 n1 c1, .slice a2 n2 c2, .slice a3 n3 c3] 24) = w1 := ⟨_, rfl⟩
  have Hb1 : Hid (Below w.heap.size w w1) := hid_ (by rw [← hw1]; exact below_alloc _ _)
  obtain ⟨k0, k1, k2, k3⟩ := box4 hw1 (Below.refl _ _)
  have HR1 := hid_ (Hr.out.below Hb1.out (Nat.le_refl _))
  have HI1 := hid_ (h.below Hb1.out (Nat.le_refl _))
  have HW1 := hid_ hw1
  have Hv1 := hid_ (ruValidate_calls _ R w1 HR1.out)
  have Hv2 := hid_ (fun w2 (hb : Below w1.heap.size w1 w2) => ruValidateWord_calls a n c l w2 (HI1.out.below hb (Nat.le_refl _)))
  have Hor := hid_ (show ∀ (w : World) (T : TypeId), Calls Try.prog 109 #[.slice (some ⟨w.heap.size, 0, none⟩) 2 2] (w.alloc (.cells #[.int .i64 (validR R), .int .i64 (validW l)] T)) fun e w' => e = .returned (.int .i64 (err2 R l)) ∧ w.alloc (.cells #[.int .i64 (validR R), .int .i64 (validW l)] T) = w' from fun w T => or2_calls _ _ w T)
  have Hok := hid_ (@err2_ok R l)
  by_cases he : err2 R l = 0
  · obtain ⟨e1, e2⟩ := Hok.out he
    obtain ⟨g1, g2, g3, g4, g5, g6⟩ := validR_ok e1
    obtain ⟨g7, g8⟩ := validW_ok e2
    have hn8 : n ≤ 8 := by rw [← h.len]; exact g7
    have Hf : Hid (resAlong R l = (alongP R l).getD []) := hid_ (if_pos he)
    have HE : Hid (errAlong R l = if (alongP R l).isSome then 0 else 3) := hid_ (if_pos he)
    have HA : Hid (alongP R l = alongF R (n + 1) l 0) := hid_ (by rw [alongP, h.len])
    have Hcl := hid_ (fun W (hW : Below w1.heap.size w1 W) => clone_calls a n c l W (HI1.out.below hW (Nat.le_refl _)) (by omega))
    have Hso := hid_ (fun W (hW : Below w1.heap.size w1 W) => sidesOf_calls _ R W (HR1.out.below hW (Nat.le_refl _)) g5 g6)
    have Htk := hid_ (fun W (hW : Below w1.heap.size w1 W) d os => taken_calls _ R _ ((HR1.out.below hW (Nat.le_refl _)).grown d os))
    have Hol := hid_ g3
    have How := hid_ g4
    have Hlw := hid_ g8
    have Hll := hid_ g7
    have Hlen := hid_ h.len
    have Ho1 : Hid (R.o.length = n1) := hid_ (by obtain ⟨_, _, _, _, _, _, _, _, _, e, h1, _, _⟩ := Hr.out; injection e with e; simp at e; have := h1.len; omega)
    rw [he] at Hor
    try rw [he]
    clear g1 g2 g3 g4 g5 g6 g7 g8 e1 e2 he
    generalize validR R = x1 at *
    generalize validW l = x2 at *
    go_enter Try.func44, Try.ntmps44
    go_wp2_with (first
      | (go_at_call 33; refine Hv1.out.mono ?_; rintro e w4 ⟨rfl, hb2⟩)
      | (go_at_call 35; refine (Hv2.out _ hb2).mono ?_; rintro e w' ⟨rfl, rfl⟩)
      | (go_at_call 109; refine (Hor.out _ _).mono ?_; rintro e w5 ⟨rfl, hw5⟩; have hb3 : Below w1.heap.size w1 w5 := (by rw [← hw5]; exact hb2.trans ((below_alloc w4 _).mono hb2.size)); clear hw5; obtain ⟨q0, q1, q2, q3⟩ := box4 HW1.out hb3))
    refine (Hcl.out _ hb3).mono ?_
    rintro e w6 ⟨v6, rfl, hm6⟩
    have hb6 := hb3.trans (hm6.bel.mono hb3.size)
    clear q0 q1 q2 q3
    obtain ⟨q0, q1, q2, q3⟩ := box4 HW1.out hb6
    have hown6 := own_base hm6.own hb3.size
    clear hm6
    go_wp2_with (go_at_call 127; refine (Hso.out _ hb6).mono ?_; rintro e w' ⟨rfl, hb7⟩)
    obtain ⟨w3, hw3⟩ : ∃ w3, w'.alloc (.cells #[.func (.func 182) #[.agg (nbV R.le)] #[], .func (.func 182) #[.agg (nbV R.ri)] #[]] 107) = w3 := ⟨_, rfl⟩
    have hb73 : Below w'.heap.size w' w3 := by rw [← hw3]; exact below_alloc w' _
    have hb63 : Below w6.heap.size w6 w3 := hb7.trans (hb73.mono hb7.size)
    have hb13 : Below w1.heap.size w1 w3 := hb6.trans (hb63.mono hb6.size)
    have hz3 : w'.heap.size < w3.heap.size := by rw [← hw3]; simp
    have s0 : w3.cell? ⟨w'.heap.size, 0, none⟩ = some (.func (.func 182) #[.agg (nbV R.le)] #[]) := by rw [← hw3, cells_alloc]; rfl
    have s1 : w3.cell? ⟨w'.heap.size, 1, none⟩ = some (.func (.func 182) #[.agg (nbV R.ri)] #[]) := by rw [← hw3, cells_alloc]; rfl
    have Hk : Hid (∀ W, Below w3.heap.size w3 W → (W.cell? ⟨w.heap.size, 0, none⟩ = some (.int .i64 R.f) ∧ W.cell? ⟨w.heap.size, 1, none⟩ = some (.slice a1 n1 c1) ∧ W.cell? ⟨w.heap.size, 2, none⟩ = some (.slice a2 n2 c2) ∧ W.cell? ⟨w.heap.size, 3, none⟩ = some (.slice a3 n3 c3)) ∧ W.cell? ⟨w'.heap.size, 0, none⟩ = some (.func (.func 182) #[.agg (nbV R.le)] #[]) ∧ W.cell? ⟨w'.heap.size, 1, none⟩ = some (.func (.func 182) #[.agg (nbV R.ri)] #[])) := hid_ (fun W hW =>
      ⟨box4 HW1.out (hb13.trans (hW.mono hb13.size)), (hW.cell (p := ⟨w'.heap.size, 0, none⟩) hz3).trans s0, (hW.cell (p := ⟨w'.heap.size, 1, none⟩) hz3).trans s1⟩)
    have hown3 := own_below hown6 hb63 (Nat.le_refl _)
    obtain ⟨av, cv, rfl, -⟩ := IntsAt.own hown3
    have Hb13 := hid_ hb13
    have Hb3 : Hid (Below w.heap.size w w3) := hid_ (Hb1.out.trans (hb13.mono Hb1.out.size))
    try rw [hw3]
    clear hw3 hb7 hb73 hb63 hb13 hz3 s0 s1 q0 q1 q2 q3 hown6 hb6 hb3
    go_loopg [7, 9] (n + 1) (fun g vv i wr => ∃ L : List Int, ∃ k : Nat, i = .int .i64 k ∧ g = L.length + 1 - k ∧ k ≤ L.length + 1 ∧ alongF R (L.length + 1 - k) L k = alongP R l ∧ L.length ≤ 8 ∧ isWord L = true ∧ wr.ownsRow w1.heap.size 3 1 vv L.length (L.map (Value.int .i64)) ∧ Below w3.heap.size w3 wr)
    case atStart => exact ⟨l, 0, rfl, by rw [Hlen.out]; omega, by omega, by rw [HA.out, Hlen.out, Nat.sub_zero], Hll.out, Hlw.out, hown3, Below.refl _ _⟩
    case round =>
      clear hown3
      obtain ⟨L, k, rfl, hgk, hk1, hrest, hL8, hLw, hown, hbel⟩ := hrel
      obtain ⟨av, cv, rfl, hI⟩ := IntsAt.own hown
      have Hgk := hid_ hgk; clear hgk
      have Hown := hid_ hown; clear hown
      have hsz := hbel.size
      have hb1r := hid_ (Hb13.out.trans (hbel.mono Hb13.out.size))
      by_cases hlt : k ≤ L.length
      · obtain ⟨m, hm⟩ : ∃ m, L.length + 1 - k = m + 1 := ⟨L.length - k, by omega⟩
        rw [hm, alongF] at hrest
        have Hm := hid_ hm; clear hm
        have Hc := hid_ (isPlaceP_calls R.f R.le R.ri av L.length cv L k wr hI hLw (by omega))
        obtain ⟨⟨q0, q1, q2, q3⟩, s0, s1⟩ := Hk.out wr hbel
        have hki : (k : Int) ≤ (L.length : Int) := by omega
        cases hh : plB R.f R.le R.ri L k with
        | false =>
          rw [hh] at Hc hrest
          have Hrest := hid_ hrest; clear hrest
          have hk8 : k ≤ 8 := by omega
          have Hlt := hid_ hlt
          have HL8 := hid_ hL8; have HLw := hid_ hLw
          clear hh hlt hL8 hLw
          generalize hN : L.length = N at *
          have HN := hid_ hN; clear hN
          go_wp2_with (go_at_call 128; refine (Hc.out).mono ?_; rintro e w' ⟨rfl, hbc⟩)
          go_roundg m
          case rel => exact ⟨L, k + 1, by go_num, by have := Hm.out; have := HN.out; omega, by have := HN.out; have := Hlt.out; omega, by rw [show L.length + 1 - (k + 1) = m by have := Hm.out; have := HN.out; omega]; exact Hrest.out, by rw [HN.out]; exact HL8.out, HLw.out, by rw [HN.out]; exact own_grown Hown.out hbc, hbel.trans (hbc.mono hsz)⟩
          case measure => have := Hgk.out; have := Hm.out; omega
        | true =>
          have hfit := pl_fit hh
          have hk := one_ok hh
          rw [hh] at Hc hrest
          simp only [if_true] at hrest
          have hpa : putAll R [(k : Int)] L = putL L k (k + tkN R) R.o := rfl
          have hplen := putL_length (o := R.o) (show k ≤ k + tkN R by omega) hfit
          have Hput := hid_ (fun W (hW : Below wr.heap.size wr W) (A : Option Addr) (hA : IntsAt W A 1 1 [(k : Int)]) => put_calls _ R av L.length cv L A 1 1 [(k : Int)] W (HR1.out.below (hb1r.out.trans (hW.mono hb1r.out.size)) (Nat.le_refl _)) (hI.below hW (Nat.le_refl _)) hA (by omega) (by omega) Hol.out hk)
          have hww := isWord_put (i := k) (j := k + tkN R) hLw How.out
          by_cases h8 : 8 < (putL L k (k + tkN R) R.o).length
          · rw [if_pos h8] at hrest
            have hpe : putErr R [(k : Int)] L = 3 := by rw [putErr, hpa, if_pos h8]
            have hpv : putRes R [(k : Int)] L = [] := by rw [putRes, hpa, if_pos h8]
            rw [hpe, hpv] at Hput
            have Hrest := hid_ hrest
            clear hrest h8 hpa hplen hww hpe hpv hk hfit hh hlt hL8 hLw
            generalize hN : L.length = N at *
            clear hN
            go_wp2_with (go_at_call 128; refine Hc.out.mono ?_; rintro e w8 ⟨rfl, hbc⟩; obtain ⟨⟨t0, t1, t2, t3⟩, -, -⟩ := Hk.out w8 (hbel.trans (hbc.mono hsz)))
            obtain ⟨w9, hw9⟩ : ∃ w9, w8.alloc (.cells #[.int .i64 k] 3) = w9 := ⟨_, rfl⟩
            have hI9 : IntsAt w9 (some ⟨w8.heap.size, 0, none⟩) 1 1 [(k : Int)] := by rw [← hw9]; exact IntsAt.one _ _ _
            have hb9 : Below wr.heap.size wr w9 := by rw [← hw9]; exact hbc.trans ((below_alloc w8 _).mono hbc.size)
            rw [hw9]
            refine (Hput.out w9 hb9 _ hI9).mono ?_
            rintro e w10 ⟨v10, rfl, hm10⟩
            have hbf : Below w.heap.size w w10 := Hb3.out.trans ((hbel.trans ((hb9.trans (hm10.bel.mono hb9.size)).mono hsz)).mono Hb3.out.size)
            go_wp2_with fail
            go_ret2
            exact ⟨_, by rw [HE.out, ← Hrest.out] <;> rfl, by rw [Hf.out, ← Hrest.out]; exact Made.none_ _ hbf⟩
          · rw [if_neg h8] at hrest
            have hpe : putErr R [(k : Int)] L = 0 := by rw [putErr, hpa, if_neg h8]
            have hpv : putRes R [(k : Int)] L = putL L k (k + tkN R) R.o := by rw [putRes, hpa, if_neg h8]
            rw [hpe, hpv] at Hput
            have htk1 : tkN R ≤ 1 := by unfold tkN; split <;> omega
            have hnx : (putL L k (k + tkN R) R.o).length + 1 - (k + R.o.length + 1 - tkN R) = m := by
              rw [hplen]; have := Hm.out; omega
            have hn1' := Ho1.out
            have hnx2 : k + R.o.length + 1 - tkN R ≤ (putL L k (k + tkN R) R.o).length + 1 := by rw [hplen]; omega
            have hwr : IntKind.i64.wrap ((n1 : Int) + 1) = (n1 : Int) + 1 := IntWalk.i64_in _ (by have := Hol.out; omega)
            have hwr2 : IntKind.i64.wrap ((n1 : Int) + 1 - (tkN R : Int)) = (n1 : Int) + 1 - (tkN R : Int) := IntWalk.i64_in _ (by have := Hol.out; omega)
            have hwr3 : IntKind.i64.wrap ((k : Int) + ((n1 : Int) + 1 - (tkN R : Int))) = (k : Int) + ((n1 : Int) + 1 - (tkN R : Int)) := IntWalk.i64_in _ (by have := Hol.out; omega)
            have Hnum : Hid ((k : Int) + ((n1 : Int) + 1 - (tkN R : Int)) = ((k + R.o.length + 1 - tkN R : Nat) : Int)) := hid_ (by omega)
            generalize hLL : putL L k (k + tkN R) R.o = LL at *
            have Hrest := hid_ hrest; have Hnx := hid_ hnx; have Hnx2 := hid_ hnx2; have Hww := hid_ hww; have H8 := hid_ h8
            clear hrest h8 hpa hplen hww hpe hpv hk hfit hh hlt hL8 hLw hLL hnx hnx2 hn1' htk1
            generalize hN : L.length = N at *
            clear hN
            go_wp2_with (go_at_call 128; refine Hc.out.mono ?_; rintro e w8 ⟨rfl, hbc⟩; obtain ⟨⟨t0, t1, t2, t3⟩, -, -⟩ := Hk.out w8 (hbel.trans (hbc.mono hsz)))
            obtain ⟨w9, hw9⟩ : ∃ w9, w8.alloc (.cells #[.int .i64 k] 3) = w9 := ⟨_, rfl⟩
            have hI9 : IntsAt w9 (some ⟨w8.heap.size, 0, none⟩) 1 1 [(k : Int)] := by rw [← hw9]; exact IntsAt.one _ _ _
            have hb9 : Below wr.heap.size wr w9 := by rw [← hw9]; exact hbc.trans ((below_alloc w8 _).mono hbc.size)
            rw [hw9]
            refine (Hput.out w9 hb9 _ hI9).mono ?_
            rintro e w10 ⟨v10, rfl, hm10⟩
            have hb10 : Below wr.heap.size wr w10 := hb9.trans (hm10.bel.mono hb9.size)
            have hb310 := hbel.trans (hb10.mono hsz)
            clear q0 q1 q2 q3 s0 s1 t0 t1 t2 t3 hw9
            obtain ⟨⟨q0, q1, q2, q3⟩, -, -⟩ := Hk.out w10 hb310
            have e0 := cell_regrown q0
            have e1 := cell_regrown q1
            have e2 := cell_regrown q2
            have e3 := cell_regrown q3
            have Htk1 := hid_ (fun d os => Htk.out w10 (Hb13.out.trans (hb310.mono Hb13.out.size)) d os)
            rw [tk_eq] at Htk1
            have Hown10 := hid_ (own_base hm10.own (show w1.heap.size ≤ w9.heap.size from Nat.le_trans hb1r.out.size hb9.size))
            go_wp2_with fail
            clear q0 q1 q2 q3
            refine wp_region_quiet_below (by kernel_rfl) (by kernel_rfl) ?_
            repeat (first | go_big_quiet_skip | (go_big_quiet_want; go_big_quiet_op; first | go_big_quiet_on | go_big_quiet_call ((go_at_call 129; exact Calls.regrown_of (Htk1.out _ _)))))
            refine wpQuiet_nil ?_
            rintro wq ⟨pq, hpq⟩
            have hbq := below_wq hpq; clear hpq
            clear e0 e1 e2 e3
            go_wp2_with fail
            go_roundg m
            case rel => exact ⟨LL, k + R.o.length + 1 - tkN R, by rw [Hnum.out], Hnx.out.symm, Hnx2.out, by rw [Hnx.out]; exact Hrest.out, by have := H8.out; omega, Hww.out, own_grown Hown10.out hbq, hb310.trans (hbq.mono hb310.size)⟩
            case measure => have := Hgk.out; have := Hm.out; omega
      · have hkn : L.length + 1 - k = 0 := by omega
        rw [hkn, alongF] at hrest
        have Hrest := hid_ hrest; clear hrest
        have hki : ¬ (k : Int) ≤ (L.length : Int) := by omega
        have hbf : Below w.heap.size w wr := Hb3.out.trans (hbel.mono Hb3.out.size)
        clear hL8 hLw hkn hlt
        generalize hN : L.length = N at *
        have HN := hid_ hN; clear hN
        go_wp2
        go_ret2
        exact ⟨_, by rw [HE.out, ← Hrest.out] <;> rfl, by rw [Hf.out, ← Hrest.out]; exact ⟨by rw [Option.getD_some, HN.out]; exact own_base Hown.out Hb1.out.size, hbf⟩⟩
  ·
    have Hf : Hid (resAlong R l = []) := hid_ (if_neg he)
    have HE : Hid (errAlong R l = err2 R l) := hid_ (if_neg he)
    generalize validR R = x1 at *
    generalize validW l = x2 at *
    generalize err2 R l = er at *
    have hq : (er != 0) = true := by simpa using he
    clear he
    go_enter Try.func44, Try.ntmps44
    go_wp2_with (first
      | (go_at_call 33; refine Hv1.out.mono ?_; rintro e w4 ⟨rfl, hb2⟩)
      | (go_at_call 35; refine (Hv2.out _ hb2).mono ?_; rintro e w' ⟨rfl, rfl⟩)
      | (go_at_call 109; refine (Hor.out _ _).mono ?_; rintro e w5 ⟨rfl, hw5⟩; have hb3 : Below w1.heap.size w1 w5 := (by rw [← hw5]; exact hb2.trans ((below_alloc w4 _).mono hb2.size)); clear hw5; obtain ⟨q0, q1, q2, q3⟩ := box4 HW1.out hb3))
    go_ret2
    exact ⟨_, by rw [HE.out] <;> rfl, by rw [Hf.out]; exact Made.none_ _ (Hb1.out.trans (hb3.mono Hb1.out.size))⟩
end Go.Proofs.Ytnpdhmejnoplcaa
