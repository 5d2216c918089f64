import Derived.Test.YtebbmhlkdfmmcaaGreatJs
namespace Go.Proofs.YtebbmhlkdfmmcaaGreat
open Go.RowKit Go.Proofs.Kv

/-! ### visit -/
/-- what a visit leaves -/
def VisitPost (L : List Rl) (f : Nat) (x : Web) (l : List Int) (F : Nat → Prop) (w : World) (Bx Bm B : Nat) (e : Ending) (w' : World) : Prop :=
  match visitF L f x l with
  | some (i, y) => e = .returned (.tuple #[.int .i64 (i : Int), .bool true]) ∧ ∃ F' vw va, WebAt F' w' Bx Bm B vw va y.words y.words y.arcs ∧ (∀ b, b < w.heap.size → F' b → F b) ∧ Kept F w w'
  | none => e = .returned (.tuple #[.int .i64 0, .bool false]) ∧ Kept F w w'
theorem NumsAt.grown {w : World} {b : Nat} {W : List (List Int)} (h : NumsAt w b W) (d : Nat) (os : Array Obj) : NumsAt (Go.Sort.grow (redrawn w d) os) b W := by
  obtain ⟨es, cl, e⟩ := h.obj
  exact h.block ((below_regrown w d os).block b (Go.lt_of_block e))
/-- what stands while a visit goes through the steps of its word -/
def VisitInv (L : List Rl) (f i0 : Nat) (x1 : Web) (M : List Mv) (F2 : Nat → Prop) (w8 : World) (Bx Bm B k : Nat) (wr : World) : Prop :=
  ∃ Fk z vwk vak, WebAt Fk wr Bx Bm B vwk vak z.words z.words z.arcs ∧ WebOk z ∧ goF (visitF L f) i0 x1 M = goF (visitF L f) i0 z (M.drop k) ∧ (∀ b, b < w8.heap.size → Fk b → F2 b) ∧ Kept F2 w8 wr ∧ i0 + 1 ≤ z.words.length ∧ (z.arcs.getD i0 []).length = k
theorem _root_.Go.RowKit.Below.setCell_far_cell {w : World} {b o g i : Nat} {v u : Value} (h : w.cell? ⟨b, o, none⟩ = some v) (hne : b ≠ g) : (w.setCell ⟨g, i, none⟩ u).cell? ⟨b, o, none⟩ = some v :=
  (World.cell?_of_block (w := w) (a := ⟨b, o, none⟩) (Below.heap_setCell w ⟨g, i, none⟩ u b hne)).trans h
theorem box3 {w w1 : World} {v0 v1 v2 : Value} {T : TypeId} (hw1 : w.alloc (.cells #[v0, v1, v2] T) = w1) :
    w1.cell? ⟨w.heap.size, 0, none⟩ = some v0 ∧ w1.cell? ⟨w.heap.size, 1, none⟩ = some v1 ∧ w1.cell? ⟨w.heap.size, 2, none⟩ = some v2 := by
  subst hw1
  exact ⟨cells_alloc _ _ _ 0, cells_alloc _ _ _ 1, cells_alloc _ _ _ 2⟩
theorem arc_getD {x : Web} {i j : Nat} {a : (Int × Int) × Nat} (h : j ≠ i) : (x.arc i a).arcs.getD j [] = x.arcs.getD j [] := by
  simp only [Web.arc, List.getD]; rw [List.getElem?_set_ne (Ne.symm h)]
theorem visitF_arcs {L : List Rl} (hL : ∀ R ∈ L, validR R = 0) : ∀ (f : Nat) {x : Web} {l : List Int} {i : Nat} {y : Web}, WebOk x → validW l = 0 → visitF L f x l = some (i, y) → ∀ j, j < x.arcs.length → y.arcs.getD j [] = x.arcs.getD j []
  | 0, x, l, i, y, _, _, h => by simp [visitF] at h
  | f + 1, x, l, i, y, hx, hl, h => by
    unfold visitF at h
    cases hf : findW x.words l with
    | some j =>
      rw [hf] at h
      simp only [Option.some.injEq, Prod.mk.injEq] at h
      obtain ⟨rfl, rfl⟩ := h
      exact fun _ _ => rfl
    | none =>
      rw [hf] at h
      simp only at h
      by_cases h3 : x.words.length = 300
      · rw [if_pos h3] at h; cases h
      · rw [if_neg h3] at h
        obtain ⟨y', hgo, he⟩ := Option.map_eq_some_iff.1 h
        simp only [Prod.mk.injEq] at he
        obtain ⟨rfl, rfl⟩ := he
        have key : ∀ (ms : List Mv) (z : Web), (∀ m ∈ ms, validW m.2 = 0) → WebOk z → x.arcs.length < z.arcs.length → (∀ j, j < x.arcs.length → z.arcs.getD j [] = x.arcs.getD j []) → goF (visitF L f) x.words.length z ms = some y' → ∀ j, j < x.arcs.length → y'.arcs.getD j [] = x.arcs.getD j [] := by
          intro ms
          induction ms with
          | nil => intro z _ _ _ hz hg; simp only [goF, Option.some.injEq] at hg; subst hg; exact hz
          | cons m ms ih =>
            intro z hms hz hlt hp hg
            simp only [goF] at hg
            obtain ⟨r, hr, hg⟩ := Option.bind_eq_some_iff.1 hg
            obtain ⟨hy, hpp, _, _⟩ := visitF_ok hL f hz (hms m (by simp)) (show visitF L f z m.2 = some (r.1, r.2) from hr)
            have ha := visitF_arcs hL f hz (hms m (by simp)) (show visitF L f z m.2 = some (r.1, r.2) from hr)
            have hle := hpp.length_le
            have e1 := hz.same
            have e2 := hy.same
            refine ih _ (fun m hm => hms m (by simp [hm])) (hy.arc _ _) (by simp only [Web.arc, List.length_set]; omega) (fun j hj => ?_) hg
            rw [arc_getD (by have := hx.same; omega), ha j (by omega)]
            exact hp j hj
        refine key _ _ (moves_valid hL hl) (hx.push hl hf h3) (by simp [Web.push]) (fun j hj => ?_) hgo
        simp only [Web.push, List.getD]; rw [List.getElem?_append_left hj]
set_option maxRecDepth 100000 in
set_option maxHeartbeats 8000000 in
theorem visit_calls (A : Option Addr) (N C : Nat) (L : List Rl) (w0 : World) (h0 : RulesAt w0 A N C L) (hL : ∀ R ∈ L, validR R = 0) (hN : N ≤ 6) (Bx Bm B Bs Bv : Nat) (hB0 : w0.heap.size ≤ B) :
    ∀ (f : Nat) (F : Nat → Prop) (w : World) (x : Web) (vw va : Value) (a : Option Addr) (n c : Nat) (l : List Int), WebAt F w Bx Bm B vw va x.words x.words x.arcs → WebOk x → 301 ≤ x.words.length + f →
      IntsAt w a n c l → (∀ b off, 0 < n → a = some ⟨b, off, none⟩ → ¬ F b) → validW l = 0 → Below w0.heap.size w0 w →
      w.heap[Bs]? = some (.cells #[.slice A N C] 22 (0, 0)) → ¬ F Bs →
      w.heap[Bv]? = some (.cells #[.func (.func 57) #[] #[.pointer (some ⟨Bx, 0, none⟩), .pointer (some ⟨Bs, 0, none⟩), .pointer (some ⟨Bv, 0, none⟩)]] 86 (0, 0)) → ¬ F Bv →
      Calls Tryz.prog 57 #[.slice a n c, .pointer (some ⟨Bx, 0, none⟩), .pointer (some ⟨Bs, 0, none⟩), .pointer (some ⟨Bv, 0, none⟩)] w (VisitPost L f x l F w Bx Bm B) := by
  intro f
  induction f with
  | zero => intro F w x vw va a n c l hW hx hf; have := hx.le; omega
  | succ f ih =>
    intro F w x vw va a n c l hW hx hf hI hIF hl hb0 hs hsF hv hvF
    obtain ⟨c0, c1, c2, cf⟩ := hW.cells
    have Hl8 := hid_ (validW_ok hl).1
    have hn8 : n ≤ 8 := by rw [← hI.len]; exact Hl8.out
    have hx3 := hx.le
    have HK := hid_ (fun W (hb : Below w.heap.size w W) => key_calls a n c l W (hI.below hb (Nat.le_refl _)) (by omega) (validW_ok hl).2)
    have e1 := cell_regrown c1
    have hlk := fun d os => NumsAt.look (hW.nums.grown d os) hl
    have HPost : Hid (∀ e w', VisitPost L (f + 1) x l F w Bx Bm B e w' = (match visitF L (f + 1) x l with
      | some (i, y) => e = .returned (.tuple #[.int .i64 (i : Int), .bool true]) ∧ ∃ F' vw va, WebAt F' w' Bx Bm B vw va y.words y.words y.arcs ∧ (∀ b, b < w.heap.size → F' b → F b) ∧ Kept F w w'
      | none => e = .returned (.tuple #[.int .i64 0, .bool false]) ∧ Kept F w w')) := hid_ (fun e w' => rfl)
    cases hfd : findW x.words l with
    | some i =>
      have Hres : Hid (visitF L (f + 1) x l = some (i, x)) := hid_ (by unfold visitF; rw [hfd])
      rw [hfd] at hlk
      simp only [Option.getD_some, Option.isSome_some] at hlk
      have HW := hid_ hW
      clear hfd ih hW
      go_enter Tryz.func57, Tryz.ntmps57
      go_wp2_with fail
      refine wp_region_quiet_below (by kernel_rfl) (by kernel_rfl) ?_
      repeat (first | go_big_quiet_skip | (go_big_quiet_want; go_big_quiet_op; first | go_big_quiet_on | go_big_quiet_call ((go_at_call 40; exact Calls.regrown_of (HK.out _ (below_regrown _ _ _))))))
      refine wpQuiet_nil ?_
      rintro wq ⟨pq, hpq⟩
      have hbq := below_wq hpq; clear hpq
      clear hlk e1
      go_wp2
      refine bodyPost_ret (v := .tuple #[.int .i64 (i : Int), .bool true]) (by simp [results, Tryz.results57, go_sem]) rfl ?_
      rw [HPost.out, Hres.out]
      exact ⟨rfl, F, vw, va, HW.out.next hbq, fun _ _ h => h, hbq.kept⟩
    | none =>
      obtain ⟨aw, cw, rfl, hLw⟩ := (show ∃ aw cw, vw = .slice aw x.words.length cw ∧ True from by
        obtain ⟨vs, v1, v2⟩ := hW.words
        rcases v1.2 with ⟨rfl, h⟩ | ⟨g, cap, cur, rfl, _⟩
        · exact ⟨none, 0, by rw [h], trivial⟩
        · exact ⟨_, _, rfl, trivial⟩)
      clear hLw
      rw [hfd] at hlk
      simp only [Option.getD_none, Option.isSome_none] at hlk
      have HW := hid_ hW
      by_cases h300 : x.words.length = 300
      · have Hres : Hid (visitF L (f + 1) x l = none) := hid_ (by unfold visitF; rw [hfd]; simp only; rw [if_pos h300])
        clear hfd ih hW
        rw [h300] at c0
        go_enter Tryz.func57, Tryz.ntmps57
        go_wp2_with fail
        refine wp_region_quiet_below (by kernel_rfl) (by kernel_rfl) ?_
        repeat (first | go_big_quiet_skip | (go_big_quiet_want; go_big_quiet_op; first | go_big_quiet_on | go_big_quiet_call ((go_at_call 40; exact Calls.regrown_of (HK.out _ (below_regrown _ _ _))))))
        refine wpQuiet_nil ?_
        rintro wq ⟨pq, hpq⟩
        have hbq := below_wq hpq; clear hpq
        clear hlk e1
        have c0q := cell_below c0 hbq
        clear c0
        go_wp2
        refine bodyPost_ret (v := .tuple #[.int .i64 0, .bool false]) (by simp [results, Tryz.results57, go_sem]) rfl ?_
        rw [HPost.out, Hres.out]
        exact ⟨rfl, hbq.kept⟩
      · have h3 : ¬ (x.words.length : Int) = 300 := by omega
        have Hres : Hid (visitF L (f + 1) x l = (goF (visitF L f) x.words.length (x.push l) (movesL L l)).map fun y => (x.words.length, y)) := hid_ (by
          rw [visitF, hfd]; simp only; rw [if_neg h300])
        have Hih := hid_ ih
        have Hx := hid_ hx
        have Hfd := hid_ hfd
        have HMv := hid_ (fun W (hb : Below w0.heap.size w0 W) (hi : IntsAt W a n c l) => moves_calls A N C L a n c l W (h0.below hb (Nat.le_refl _)) hi hL hN hl)
        have HIk := hid_ (fun W (hk : Kept F w W) => hI.kept hk hIF)
        have HBs := hid_ (fun W (hk : Kept F w W) => (hk.block Bs (Go.lt_of_block hs) hsF).trans hs)
        have HBv := hid_ (fun W (hk : Kept F w W) => (hk.block Bv (Go.lt_of_block hv) hvF).trans hv)
        have Hb0 := hid_ hb0
        have HBsl : Hid (Bs < w.heap.size) := hid_ (Go.lt_of_block hs)
        have HBvl : Hid (Bv < w.heap.size) := hid_ (Go.lt_of_block hv)
        have HBw : Hid (B ≤ w.heap.size) := hid_ (by have := hW.lim _ hW.fx; omega)
        have HF0 : Hid (∀ b, F b → w0.heap.size ≤ b) := hid_ (fun b hb => Nat.le_trans hB0 (hW.lim b hb).1)
        have HIF := hid_ hIF
        have HIw := hid_ hI
        have Hl := hid_ hl
        have hAl : x.arcs.length ≤ 300 := by rw [hx.same]; exact hx.le
        clear hfd ih hW h300 hl hs hv hb0 hIF hI
        go_enter Tryz.func57, Tryz.ntmps57
        go_wp2_with fail
        refine wp_region_quiet_below (by kernel_rfl) (by kernel_rfl) ?_
        repeat (first | go_big_quiet_skip | (go_big_quiet_want; go_big_quiet_op; first | go_big_quiet_on | go_big_quiet_call ((go_at_call 40; exact Calls.regrown_of (HK.out _ (below_regrown _ _ _))))))
        refine wpQuiet_nil ?_
        rintro wq ⟨pq, hpq⟩
        have hbq := below_wq hpq; clear hpq
        clear hlk e1
        obtain ⟨w1, rfl⟩ : ∃ w1, w1 = wq := ⟨_, rfl⟩
        have c0q := cell_below c0 hbq
        have e1q := cell_regrown (cell_below c1 hbq)
        clear c0 c1 c2
        go_wp2_with fail
        refine wp_region_tail 5 (by kernel_rfl) (by kernel_rfl) ?_
        simp only [List.take_succ_cons, List.take_zero, List.drop_succ_cons, List.drop_zero]
        repeat (first | go_big_quiet_skip | (go_big_quiet_want; go_big_quiet_op; first | go_big_quiet_on | go_big_quiet_call ((go_at_call 40; exact Calls.regrown_of (HK.out _ (hbq.trans ((below_regrown w1 _ _).mono hbq.size)))))))
        refine wpQuiet_nil ?_
        rintro wq ⟨pq, hpq⟩
        have hbq2 := below_wq hpq; clear hpq
        obtain ⟨w2, rfl⟩ : ∃ w2, w2 = wq := ⟨_, rfl⟩
        have hb2 := hbq.trans (hbq2.mono hbq.size)
        have HW2 := hid_ (HW.out.next hb2)
        clear e1q c0q
        go_wp2_with (first
          | (at_mapUpdate; refine wpList_nums_store rfl (.tmp 30) (.tmp 32) (.tmp 33) rfl Bm x.words rfl HW2.out.nums l Hl.out Hfd.out rfl rfl hx3 ?_; intro w3 hn3 hg3; have hW3 := hid_ (HW2.out.num hn3 hg3); obtain ⟨d0, d1, d2, df⟩ := hW3.out.cells; have hk3 : Kept F w w3 := (hb2.kept (F := F)).grown hg3 (fun i _ e => by injection e with e; subst e; exact HW2.out.fm))
          | (at_builtin; refine wpList_web_word rfl (.tmp 35) (.tmp 37) rfl hW3.out (Nat.le_trans HBw.out hk3.size) rfl (u := .slice a n c) (l := l) ⟨a, n, c, rfl, HIk.out w3 hk3, HIF.out⟩ _ rfl (by omega) ?_; rintro v4 w4 ⟨g4, k4, rfl⟩ y0 yf hW4 hK4 hs4; obtain ⟨w5, hw5⟩ : ∃ w5, w4.setCell ⟨Bx, 0, none⟩ (.slice (some ⟨g4, 0, none⟩) (x.words.length + 1) k4) = w5 := ⟨_, rfl⟩; rw [hw5] at hW4 hK4; obtain ⟨q0, q1, q2, qf⟩ := hW4.cells; have hk5 : Kept F w w5 := hk3.trans hK4 (fun _ _ h => h) (fun _ _ h => h); have hW5 := hid_ hW4; have hS5 := hid_ (fun b (hb : b < w.heap.size) => hs4 b (Nat.lt_of_lt_of_le hb hk3.size)); clear hW4 hK4 hs4)
          | (at_builtin; refine wpList_web_row rfl (.tmp 41) (.tmp 42) rfl hW5.out (Nat.le_trans HBw.out hk5.size) rfl _ rfl (by omega) ?_; rintro v6 w6 ⟨g6, k6, rfl⟩ z0 zf hW6 hK6 hs6; obtain ⟨w7, hw7⟩ : ∃ w7, w6.setCell ⟨Bx, 2, none⟩ (.slice (some ⟨g6, 0, none⟩) (x.arcs.length + 1) k6) = w7 := ⟨_, rfl⟩; rw [hw7] at hW6 hK6; have hS7 := hid_ (fun b (hb : b < w.heap.size) e => hS5.out b hb (hs6 b (Nat.lt_of_lt_of_le hb hk5.size) e)); have hk7 : Kept F w w7 := hk5.trans hK6 (fun _ _ h => h) (fun b hb h => hS5.out b hb h); have hW7 := hid_ hW6; have sc := Go.cell_of_one (HBs.out w7 hk7); clear hW6 hK6 hs6)
          | (go_at_call 58; (with_reducible refine (HMv.out w7 (Hb0.out.trans (hk7.below (Nat.le_trans Hb0.out.size (Nat.le_refl _)) HF0.out)) (HIk.out w7 hk7)).mono ?_); rintro e w8 ⟨v8, rfl, hM8, hb8⟩; have hM8' := hid_ hM8.at_; obtain ⟨a8, c8, rfl, hA8⟩ := hM8.at_))
        have hk8 : Kept F w w8 := hk7.next hb8
        have hx1 : WebOk (x.push l) := Hx.out.push Hl.out Hfd.out (by omega)
        have HW8 : Hid (WebAt (orB (orB F (.slice (some ⟨g4, 0, none⟩) (x.words.length + 1) k4)) (.slice (some ⟨g6, 0, none⟩) (x.arcs.length + 1) k6)) w8 Bx Bm B _ _ (x.push l).words (x.push l).words (x.push l).arcs) := hid_ (hW7.out.next hb8)
        have HL7 := hid_ (fun b hb => (hW7.out.lim b hb).2)
        obtain ⟨F2, hF2⟩ : ∃ F2, F2 = orB (orB F (.slice (some ⟨g4, 0, none⟩) (x.words.length + 1) k4)) (.slice (some ⟨g6, 0, none⟩) (x.arcs.length + 1) k6) := ⟨_, rfl⟩
        rw [← hF2] at HW8 hS7 HL7
        have Hk8 := hid_ hk8
        have HA8 := hid_ hA8
        have Hb8 := hid_ hb8
        have Hx1 := hid_ hx1
        have Hmv := hid_ (moves_valid hL Hl.out)
        have Hml : Hid ((movesL L l).length ≤ 54) := hid_ (by have := mvTo_le L Hl8.out L.length; have := h0.len; rw [movesL]; omega)
        generalize movesL L l = M at *
        clear hW7 hk8 hk7 hk5 hk3 hA8 hb8 hF2 hx1 hW5 hW3 HW2 hS5 hw5 hw7 hM8' sc q0 q1 q2 qf d0 d1 d2 df y0 yf z0 zf hn3 hg3 hM8 hb2 hbq hbq2 cf HK
        go_loopw [49] (fun i wr => ∃ k : Nat, k ≤ M.length ∧ i = .int .i64 k ∧ VisitInv L f x.words.length (x.push l) M F2 w8 Bx Bm B k wr) (fun i _ => M.length - (intOf i).toNat)
        case atStart => exact ⟨0, Nat.zero_le _, rfl, F2, x.push l, _, _, HW8.out, Hx1.out, rfl, fun _ _ h => h, Kept.refl _ _, by simp [Web.push], by show ((x.arcs ++ [[]]).getD x.words.length []).length = 0; rw [← Hx.out.same]; simp [List.getD]⟩
        case round =>
          obtain ⟨k, hk, rfl, Fk, z, vwk, vak, hWk, hz, hgo, hFk, hKk, hlen, hrow⟩ := hrel
          have hkr : Kept F w wr := Hk8.out.trans hKk (fun _ _ h => h) fun b hb h => hS7.out b hb h
          by_cases hlt : k < M.length
          · obtain ⟨bm, om, u, rfl, hbm, hbm8, m0, m1, m2, hu⟩ := HA8.out.cells k hlt
            have hlm := Hmv.out (M.getD k M0) (by rw [show M.getD k M0 = M[k] by simp [List.getD, List.getElem?_eq_getElem hlt]]; exact List.getElem_mem _)
            have hgc := goF_cons (visitF L f) x.words.length z hlt
            have hm54 := Hml.out
            generalize M.getD k M0 = m at *
            obtain ⟨⟨mr, mp⟩, ml⟩ := m
            simp only at m0 m1 m2 hlm hgc hu
            have hnF : ∀ b, w7.heap.size ≤ b → b < w8.heap.size → ¬ F2 b := fun b h1 h2 h3 => by have := HL7.out b h3; omega
            have hnk : ∀ b, w7.heap.size ≤ b → b < w8.heap.size → ¬ Fk b := fun b h1 h2 h3 => hnF b h1 h2 (hFk b h2 h3)
            have m0r := hKk.cell m0 (hnF bm hbm hbm8)
            have m1r := hKk.cell m1 (hnF bm hbm hbm8)
            have m2r := hKk.cell m2 (hnF bm hbm hbm8)
            obtain ⟨a9, n9, c9, rfl, hI9, hd9⟩ := hu
            have hI9r := hI9.kept hKk fun b off hn ha => hnF b (hd9 b off hn ha).1 (hI9.lt hn ha)
            have hI9n : ∀ b off, 0 < n9 → a9 = some ⟨b, off, none⟩ → ¬ Fk b := fun b off hn ha => hnk b (hd9 b off hn ha).1 (hI9.lt hn ha)
            have hbmr : bm < wr.heap.size := Nat.lt_of_lt_of_le hbm8 hKk.size
            obtain ⟨w10, hw10⟩ : ∃ w10, wr.alloc (.cells #[.int .i64 mr, .int .i64 mp, .slice a9 n9 c9] 90) = w10 := ⟨_, rfl⟩
            have hb10 : Below wr.heap.size wr w10 := by rw [← hw10]; exact below_alloc _ _
            obtain ⟨j0, j1, j2⟩ := box3 hw10
            have hs10 : w10.heap.size = wr.heap.size + 1 := by rw [← hw10]; simp
            have hk10 := hkr.next hb10
            have hblt : ∀ b, b < w.heap.size → ¬ F b → ¬ Fk b := fun b h1 h2 h3 => h2 (hS7.out b h1 (hFk b (Nat.lt_of_lt_of_le h1 Hk8.out.size) h3))
            have hbs10 := HBs.out w10 hk10
            have hbv10 := HBv.out w10 hk10
            have sv := Go.cell_of_one hbv10
            have hFkl : ∀ b, Fk b → b < wr.heap.size := fun b h => (hWk.lim b h).2
            have hFks : ∀ b, b < w.heap.size → Fk b → F b := fun b h1 h3 => hS7.out b h1 (hFk b (Nat.lt_of_lt_of_le h1 Hk8.out.size) h3)
            have HIH := hid_ (Hih.out Fk w10 z vwk vak a9 n9 c9 ml (hWk.next hb10) hz (by omega) (hI9r.below hb10 (Nat.le_refl _)) hI9n hlm (Hb0.out.trans (hk10.below Hb0.out.size HF0.out)) hbs10 (hblt Bs HBsl.out hsF) hbv10 (hblt Bv HBvl.out hvF))
            have eg : ∀ args w, (callFunc 57 args).run Tryz.prog w = .ok (.enter 57 args) w := enters_of Tryz.func57 (by kernel_rfl) rfl
            have Hz := hid_ hz; have Hlm := hid_ hlm
            cases hv2 : visitF L f z ml with
            | none =>
              have Hr2 : Hid (visitF L (f + 1) x l = none) := hid_ (by rw [Hres.out, hgo, hgc, hv2]; rfl)
              have HIH2 : Hid (Calls Tryz.prog 57 #[.slice a9 n9 c9, .pointer (some ⟨Bx, 0, none⟩), .pointer (some ⟨Bs, 0, none⟩), .pointer (some ⟨Bv, 0, none⟩)] w10 fun e w' => e = .returned (.tuple #[.int .i64 0, .bool false]) ∧ Kept Fk w10 w') :=
                hid_ (HIH.out.mono fun e w' h => by unfold VisitPost at h; rw [hv2] at h; exact h)
              have Hk10 := hid_ hk10; have HFks := hid_ hFks
              clear hgo hgc hv2 HIH hWk hz hFk hKk hlen hkr hnF hnk m0 m1 m2 hI9 hd9 hI9r hI9n hbs10 hbv10 hblt hFkl hb10 hk10 hFks hlm
              go_wp2_with (go_at_call 57; (with_reducible refine HIH2.out.mono ?_); rintro e w11 ⟨rfl, hk11⟩)
              refine bodyPost_ret (v := .tuple #[.int .i64 0, .bool false]) (by simp [results, Tryz.results57, go_sem]) rfl ?_
              rw [HPost.out, Hr2.out]
              exact ⟨rfl, Hk10.out.trans hk11 (fun _ _ h => h) HFks.out⟩
            | some ty =>
              obtain ⟨tj, y⟩ := ty
              have HIH2 : Hid (Calls Tryz.prog 57 #[.slice a9 n9 c9, .pointer (some ⟨Bx, 0, none⟩), .pointer (some ⟨Bs, 0, none⟩), .pointer (some ⟨Bv, 0, none⟩)] w10 fun e w' => e = .returned (.tuple #[.int .i64 (tj : Int), .bool true]) ∧ ∃ F' vw va, WebAt F' w' Bx Bm B vw va y.words y.words y.arcs ∧ (∀ b, b < w10.heap.size → F' b → Fk b) ∧ Kept Fk w10 w') :=
                hid_ (HIH.out.mono fun e w' h => by unfold VisitPost at h; rw [hv2] at h; exact h)
              have hyok := visitF_ok hL f hz hlm hv2
              have Hgo : Hid (goF (visitF L f) x.words.length (x.push l) M = goF (visitF L f) x.words.length (y.arc x.words.length ((mr, mp), tj)) (M.drop (k + 1))) := hid_ (by rw [hgo, hgc, hv2]; rfl)
              have hi0 : x.words.length < y.arcs.length := by have := hyok.2.1.length_le; rw [hyok.1.same]; omega
              have Hyok := hid_ hyok
              have Hrow : Hid ((y.arcs.getD x.words.length []).length = k) := hid_ (by rw [visitF_arcs hL f hz hlm hv2 x.words.length (by rw [hz.same]; omega)]; exact hrow)
              have HB10 := hid_ hb10
              have Hk10 := hid_ hk10; have HFks := hid_ hFks; have HFk := hid_ hFk; have HKk := hid_ hKk; have HFkl := hid_ hFkl
              have hlen' := hid_ hlen
              clear hgo hgc hv2 HIH hWk hz hFk hKk hlen hkr hnF hnk m0 m1 m2 hI9 hd9 hI9r hI9n hbs10 hbv10 hblt hFkl hb10 hk10 hFks hlm hyok
              go_wp2_with (go_at_call 57; (with_reducible refine HIH2.out.mono ?_); rintro e w11 ⟨rfl, F11, vw11, va11, hW11, hF11, hk11⟩)
              have hiy : x.words.length < y.arcs.length := hi0
              obtain ⟨gA, kA, us, ui, rfl, hui, hgi, u1, u2, u3, hgf⟩ := hW11.rowAt hi0
              obtain ⟨-, -, p2, -⟩ := hW11.cells
              have hb12 : wr.heap.size < w10.heap.size := by rw [hs10]; omega
              have hnF11 : ¬ F11 wr.heap.size := fun h => by have := HFkl.out _ (hF11 _ hb12 h); omega
              have p0 := hk11.cell j0 (fun h => by have := HFkl.out _ h; exact absurd this (Nat.lt_irrefl _))
              have p1 := hk11.cell j1 (fun h => by have := HFkl.out _ h; exact absurd this (Nat.lt_irrefl _))
              have hnb : ¬ ui.ownBlock = some wr.heap.size := fun e => hnF11 ((u2 _ _ hui).2 _ e)
              have hxg : Bx ≠ gA := fun e => hW11.box_apart u1 (by decide) (by rw [e]; rfl)
              have hbg : wr.heap.size ≠ gA := fun e => hnF11 (hW11.fa _ (by rw [e]; rfl))
              have hWd := hW11.next (below_drew1 (Below.refl w11.heap.size w11))
              have hBd : B ≤ w11.drew.heap.size := (Nat.le_trans HBw.out (Nat.le_trans Hk10.out.size hk11.size))
              have Hsm : Hid ((y.arcs.getD x.words.length []).length ≤ 1000) := hid_ (by rw [Hrow.out]; omega)
              have hii : (x.words.length : Int) < (y.arcs.length : Int) := by omega
              have hww : (w11.alloc (.cells #[.int .i64 mr, .int .i64 mp, .int .i64 (tj : Int)] 84)).drew = w11.drew.alloc (.cells #[.int .i64 mr, .int .i64 mp, .int .i64 (tj : Int)] 84) := rfl
              have hbw : Below w11.heap.size w11 (w11.alloc (.cells #[.int .i64 mr, .int .i64 mp, .int .i64 (tj : Int)] 84)).drew := below_drew1 (below_alloc _ _)
              have q2 := cell_below p2 hbw; have q0 := cell_below p0 hbw; have q1 := cell_below p1 hbw; have hgi2 := cell_below hgi hbw
              have Hww := hid_ hww
              clear hww hbw
              refine wp_region_held_drew (S := (fun W => W.cell? ⟨Bx, 2, none⟩ = some (.slice (some ⟨gA, 0, none⟩) y.arcs.length kA) ∧ W.cell? ⟨wr.heap.size, 0, none⟩ = some (.int .i64 mr) ∧ W.cell? ⟨wr.heap.size, 1, none⟩ = some (.int .i64 mp))) (by kernel_rfl) ⟨p2, p0, p1⟩ (fun hHeld => ?_)
              refine wpAnyH_take (i := 0) (oi := ?oi0) (v := ?v0) ?hi0 (by kernel_rfl) ?hf0 (by kernel_rfl) ?hQ0 ?hy0 (by assumption) ?rest0
              case hi0 => (simp only [List.getElem?_toArray, List.getElem?_cons_zero]; rfl)
              case hf0 => kernel_rfl
              case hQ0 => exact fun _ _ _ h => h
              case hy0 => (refine Or.inl ⟨by rfl, ?_⟩; intro W hSw; (try dsimp only at hSw); obtain ⟨s0, s1, s2⟩ := hSw; go_simp; try with_reducible rfl)
              try simp only [Act.put, List.setIfInBounds_toArray, List.set_cons_zero, List.set_cons_succ]
              refine wpAnyH_take (i := 1) (oi := ?oi1) (v := ?v1) ?hi1 (by kernel_rfl) ?hf1 (by kernel_rfl) ?hQ1 ?hy1 (by assumption) ?rest1
              case hi1 => (simp only [List.getElem?_toArray, List.getElem?_cons_succ, List.getElem?_cons_zero]; rfl)
              case hf1 => kernel_rfl
              case hQ1 => exact fun _ _ _ h => h
              case hy1 => (refine Or.inl ⟨by rfl, ?_⟩; intro W hSw; (try dsimp only at hSw); obtain ⟨s0, s1, s2⟩ := hSw; go_simp; try with_reducible rfl)
              try simp only [Act.put, List.setIfInBounds_toArray, List.set_cons_zero, List.set_cons_succ]
              refine wpAnyH_take (i := 2) (oi := ?oi2) (v := ?v2) ?hi2 (by kernel_rfl) ?hf2 (by kernel_rfl) ?hQ2 ?hy2 (by assumption) ?rest2
              case hi2 => (simp only [List.getElem?_toArray, List.getElem?_cons_succ, List.getElem?_cons_zero]; rfl)
              case hf2 => kernel_rfl
              case hQ2 => exact fun _ _ _ h => h
              case hy2 => (refine Or.inl ⟨by rfl, ?_⟩; intro W hSw; (try dsimp only at hSw); obtain ⟨s0, s1, s2⟩ := hSw; go_simp; try with_reducible rfl)
              try simp only [Act.put, List.setIfInBounds_toArray, List.set_cons_zero, List.set_cons_succ]
              refine wpAnyH_take (i := 3) (oi := ?oi3) (v := ?v3) ?hi3 (by kernel_rfl) ?hf3 (by kernel_rfl) ?hQ3 ?hy3 (by assumption) ?rest3
              case hi3 => (simp only [List.getElem?_toArray, List.getElem?_cons_succ, List.getElem?_cons_zero]; rfl)
              case hf3 => kernel_rfl
              case hQ3 => exact fun _ _ _ h => h
              case hy3 => (refine Or.inl ⟨by rfl, ?_⟩; intro W hSw; (try dsimp only at hSw); obtain ⟨s0, s1, s2⟩ := hSw; go_simp; try with_reducible rfl)
              try simp only [Act.put, List.setIfInBounds_toArray, List.set_cons_zero, List.set_cons_succ]
              refine wpAnyH_take (i := 4) (oi := ?oi4) (v := ?v4) ?hi4 (by kernel_rfl) ?hf4 (by kernel_rfl) ?hQ4 ?hy4 (by assumption) ?rest4
              case hi4 => (simp only [List.getElem?_toArray, List.getElem?_cons_succ, List.getElem?_cons_zero]; rfl)
              case hf4 => kernel_rfl
              case hQ4 => exact fun _ _ _ h => h
              case hy4 => (refine Or.inl ⟨by rfl, ?_⟩; intro W hSw; (try dsimp only at hSw); obtain ⟨s0, s1, s2⟩ := hSw; go_simp; try with_reducible rfl)
              try simp only [Act.put, List.setIfInBounds_toArray, List.set_cons_zero, List.set_cons_succ]
              refine wpAnyH_take (i := 5) (oi := ?oi5) (v := ?v5) ?hi5 (by kernel_rfl) ?hf5 (by kernel_rfl) ?hQ5 ?hy5 (by assumption) ?rest5
              case hi5 => (simp only [List.getElem?_toArray, List.getElem?_cons_succ, List.getElem?_cons_zero]; rfl)
              case hf5 => kernel_rfl
              case hQ5 => exact fun _ _ _ h => h
              case hy5 => (refine Or.inl ⟨by rfl, ?_⟩; intro W hSw; (try dsimp only at hSw); obtain ⟨s0, s1, s2⟩ := hSw; go_simp; try with_reducible rfl)
              try simp only [Act.put, List.setIfInBounds_toArray, List.set_cons_zero, List.set_cons_succ]
              refine wpAnyH_take (i := 6) (oi := ?oi6) (v := ?v6) ?hi6 (by kernel_rfl) ?hf6 (by kernel_rfl) ?hQ6 ?hy6 (by assumption) ?rest6
              case hi6 => (simp only [List.getElem?_toArray, List.getElem?_cons_succ, List.getElem?_cons_zero]; rfl)
              case hf6 => kernel_rfl
              case hQ6 => exact fun _ _ _ h => h
              case hy6 => (refine Or.inl ⟨by rfl, ?_⟩; intro W hSw; (try dsimp only at hSw); obtain ⟨s0, s1, s2⟩ := hSw; go_simp; try with_reducible rfl)
              try simp only [Act.put, List.setIfInBounds_toArray, List.set_cons_zero, List.set_cons_succ]
              refine wpAnyH_take (i := 8) (oi := ?oi8) (v := ?v8) ?hi8 (by kernel_rfl) ?hf8 (by kernel_rfl) ?hQ8 ?hy8 (by assumption) ?rest8
              case hi8 => (simp only [List.getElem?_toArray, List.getElem?_cons_succ, List.getElem?_cons_zero]; rfl)
              case hf8 => kernel_rfl
              case hQ8 => exact fun _ _ _ h => h
              case hy8 => (refine Or.inl ⟨by rfl, ?_⟩; intro W hSw; (try dsimp only at hSw); obtain ⟨s0, s1, s2⟩ := hSw; go_simp; try with_reducible rfl)
              try simp only [Act.put, List.setIfInBounds_toArray, List.set_cons_zero, List.set_cons_succ]
              refine wpAnyH_take (i := 9) (oi := ?oi9) (v := ?v9) ?hi9 (by kernel_rfl) ?hf9 (by kernel_rfl) ?hQ9 ?hy9 (by assumption) ?rest9
              case hi9 => (simp only [List.getElem?_toArray, List.getElem?_cons_succ, List.getElem?_cons_zero]; rfl)
              case hf9 => kernel_rfl
              case hQ9 => exact fun _ _ _ h => h
              case hy9 => (refine Or.inl ⟨by rfl, ?_⟩; intro W hSw; (try dsimp only at hSw); obtain ⟨s0, s1, s2⟩ := hSw; go_simp; try with_reducible rfl)
              try simp only [Act.put, List.setIfInBounds_toArray, List.set_cons_zero, List.set_cons_succ]
              refine wpAnyH_take (i := 10) (oi := ?oi10) (v := ?v10) ?hi10 (by kernel_rfl) ?hf10 (by kernel_rfl) ?hQ10 ?hy10 (by assumption) ?rest10
              case hi10 => (simp only [List.getElem?_toArray, List.getElem?_cons_succ, List.getElem?_cons_zero]; rfl)
              case hf10 => kernel_rfl
              case hQ10 => exact fun _ _ _ h => h
              case hy10 => (refine Or.inl ⟨by rfl, ?_⟩; intro W hSw; (try dsimp only at hSw); obtain ⟨s0, s1, s2⟩ := hSw; go_simp; try with_reducible rfl)
              try simp only [Act.put, List.setIfInBounds_toArray, List.set_cons_zero, List.set_cons_succ]
              refine wpAnyH_take (i := 11) (oi := ?oi11) (v := ?v11) ?hi11 (by kernel_rfl) ?hf11 (by kernel_rfl) ?hQ11 ?hy11 (by assumption) ?rest11
              case hi11 => (simp only [List.getElem?_toArray, List.getElem?_cons_succ, List.getElem?_cons_zero]; rfl)
              case hf11 => kernel_rfl
              case hQ11 => exact fun _ _ _ h => h
              case hy11 => (refine Or.inl ⟨by rfl, ?_⟩; intro W hSw; (try dsimp only at hSw); obtain ⟨s0, s1, s2⟩ := hSw; go_simp; try with_reducible rfl)
              try simp only [Act.put, List.setIfInBounds_toArray, List.set_cons_zero, List.set_cons_succ]
              refine wpAnyH_ready (rs := [7, 12]) (by kernel_rfl) (by simp) ?_
              refine AllReadyH.cons (o := _) (by (simp only [List.getElem?_toArray, List.getElem?_cons_succ, List.getElem?_cons_zero]; rfl)) (fun K hK => ?_) (AllReadyH.cons (o := _) (by (simp only [List.getElem?_toArray, List.getElem?_cons_succ, List.getElem?_cons_zero]; rfl)) (fun K hK => ?_) AllReadyH.nil)
              · go_simp
                refine hK.out _ _ hHeld (fun hHeld1 => ?_)
                clear hK K
                try simp only [Act.put, List.setIfInBounds_toArray, List.set_cons_zero, List.set_cons_succ]
                refine wpAnyH_ready (rs := [12]) (by kernel_rfl) (by simp) ?_
                refine AllReadyH.cons (o := _) (by (simp only [List.getElem?_toArray, List.getElem?_cons_succ, List.getElem?_cons_zero]; rfl)) (fun K hK => ?_) AllReadyH.nil
                go_simp
                refine hK.out _ _ ?_ (fun hHeld2 => ?_)
                · exact ⟨q2, q0, q1⟩
                clear hK K
                try simp only [Act.put, List.setIfInBounds_toArray, List.set_cons_zero, List.set_cons_succ]
                refine wpAnyH_ready (rs := [13]) (by kernel_rfl) (by simp) ?_
                refine AllReadyH.cons (o := _) (by (simp only [List.getElem?_toArray, List.getElem?_cons_succ, List.getElem?_cons_zero]; rfl)) (fun K hK => ?_) AllReadyH.nil
                rw [Hww.out]
                refine step_web_arc rfl (.tmp 69) (.tmp 74) rfl ((mr, mp), tj) hWd hi0 u1 u2 u3 rfl hui hBd rfl _ rfl Hsm.out ?_; rintro v12 w12 ⟨g12, n12, k12, rfl⟩ b2 bi bf hk12 hW12 hK12 hs12
                refine hK.out _ _ ?_ (fun hHeld3 => ?_)
                · exact ⟨b2, hk12.cell p0 hnb, hk12.cell p1 hnb⟩
                clear hK K
                try simp only [Act.put, List.setIfInBounds_toArray, List.set_cons_zero, List.set_cons_succ]
                refine wpAnyH_take (i := 14) (oi := ?oi14) (v := ?v14) ?hi14 (by kernel_rfl) ?hf14 (by kernel_rfl) ?hQ14 ?hy14 (by assumption) ?rest14
                case hi14 => (simp only [List.getElem?_toArray, List.getElem?_cons_succ, List.getElem?_cons_zero]; rfl)
                case hf14 => kernel_rfl
                case hQ14 => exact fun _ _ _ h => h
                case hy14 => (refine Or.inl ⟨by rfl, ?_⟩; intro W hSw; (try dsimp only at hSw); obtain ⟨s0, s1, s2⟩ := hSw; go_simp; try with_reducible rfl)
                try simp only [Act.put, List.setIfInBounds_toArray, List.set_cons_zero, List.set_cons_succ]
                refine wpAnyH_ready (rs := [15]) (by kernel_rfl) (by simp) ?_
                refine AllReadyH.cons (o := _) (by (simp only [List.getElem?_toArray, List.getElem?_cons_succ, List.getElem?_cons_zero]; rfl)) (fun K hK => ?_) AllReadyH.nil
                go_simp
                refine hK.out _ _ ?_ (fun hHeld4 => ?_)
                · exact ⟨(Below.setCell_far_cell b2 hxg), (Below.setCell_far_cell (hk12.cell p0 hnb) hbg), (Below.setCell_far_cell (hk12.cell p1 hnb) hbg)⟩
                clear hK K
                try simp only [Act.put, List.setIfInBounds_toArray, List.set_cons_zero, List.set_cons_succ]
                refine wpAnyH_done (by kernel_rfl) ?_ _
                clear hHeld4 hHeld3 hHeld2 hHeld1 hHeld
                go_wp2_with fail
                go_roundw
                case rel =>
                  refine ⟨k + 1, by omega, by go_num, _, y.arc x.words.length ((mr, mp), tj), _, _, hW12, Hyok.out.1.arc _ _, Hgo.out, fun b hb h => ?_, ?_, ?_, ?_⟩
                  · have h8r := HKk.out.size
                    have h10 := hk11.size
                    exact HFk.out b hb (hF11 b (by omega) (hs12 b (show b < w11.heap.size by omega) h))
                  · have hA : Kept F2 w8 w10 := HKk.out.next HB10.out
                    have hC : Kept F2 w8 w11 := hA.trans hk11 (fun _ _ h => h) fun b hb h => HFk.out b hb h
                    refine (hC.next (below_drew1 (Below.refl _ _))).trans hK12 (fun _ _ h => h) fun b hb h => HFk.out b hb (hF11 b ?_ h)
                    have h8r := HKk.out.size
                    omega
                  · have h1 := Hyok.out.2.1.length_le
                    have h2 := hlen'.out
                    show x.words.length + 1 ≤ y.words.length
                    omega
                  · have h1 := Hrow.out
                    show ((y.arcs.set x.words.length _).getD x.words.length []).length = k + 1
                    rw [List.getD, List.getElem?_set_self hi0, Option.getD_some, List.length_append, h1]; rfl
                case measure => simp [intOf]; omega
              · go_simp
                refine hK.out _ _ ?_ (fun hHeld2 => ?_)
                · exact ⟨q2, q0, q1⟩
                clear hK K
                try simp only [Act.put, List.setIfInBounds_toArray, List.set_cons_zero, List.set_cons_succ]
                refine wpAnyH_ready (rs := [7]) (by kernel_rfl) (by simp) ?_
                refine AllReadyH.cons (o := _) (by (simp only [List.getElem?_toArray, List.getElem?_cons_succ, List.getElem?_cons_zero]; rfl)) (fun K hK => ?_) AllReadyH.nil
                go_simp
                refine hK.out _ _ ?_ (fun hHeld1 => ?_)
                · exact hHeld2
                clear hK K
                try simp only [Act.put, List.setIfInBounds_toArray, List.set_cons_zero, List.set_cons_succ]
                refine wpAnyH_ready (rs := [13]) (by kernel_rfl) (by simp) ?_
                refine AllReadyH.cons (o := _) (by (simp only [List.getElem?_toArray, List.getElem?_cons_succ, List.getElem?_cons_zero]; rfl)) (fun K hK => ?_) AllReadyH.nil
                rw [Hww.out]
                refine step_web_arc rfl (.tmp 69) (.tmp 74) rfl ((mr, mp), tj) hWd hi0 u1 u2 u3 rfl hui hBd rfl _ rfl Hsm.out ?_; rintro v12 w12 ⟨g12, n12, k12, rfl⟩ b2 bi bf hk12 hW12 hK12 hs12
                refine hK.out _ _ ?_ (fun hHeld3 => ?_)
                · exact ⟨b2, hk12.cell p0 hnb, hk12.cell p1 hnb⟩
                clear hK K
                try simp only [Act.put, List.setIfInBounds_toArray, List.set_cons_zero, List.set_cons_succ]
                refine wpAnyH_take (i := 14) (oi := ?oi14b) (v := ?v14b) ?hi14b (by kernel_rfl) ?hf14b (by kernel_rfl) ?hQ14b ?hy14b (by assumption) ?rest14b
                case hi14b => (simp only [List.getElem?_toArray, List.getElem?_cons_succ, List.getElem?_cons_zero]; rfl)
                case hf14b => kernel_rfl
                case hQ14b => exact fun _ _ _ h => h
                case hy14b => (refine Or.inl ⟨by rfl, ?_⟩; intro W hSw; (try dsimp only at hSw); obtain ⟨s0, s1, s2⟩ := hSw; go_simp; try with_reducible rfl)
                try simp only [Act.put, List.setIfInBounds_toArray, List.set_cons_zero, List.set_cons_succ]
                refine wpAnyH_ready (rs := [15]) (by kernel_rfl) (by simp) ?_
                refine AllReadyH.cons (o := _) (by (simp only [List.getElem?_toArray, List.getElem?_cons_succ, List.getElem?_cons_zero]; rfl)) (fun K hK => ?_) AllReadyH.nil
                go_simp
                refine hK.out _ _ ?_ (fun hHeld4 => ?_)
                · exact ⟨(Below.setCell_far_cell b2 hxg), (Below.setCell_far_cell (hk12.cell p0 hnb) hbg), (Below.setCell_far_cell (hk12.cell p1 hnb) hbg)⟩
                clear hK K
                try simp only [Act.put, List.setIfInBounds_toArray, List.set_cons_zero, List.set_cons_succ]
                refine wpAnyH_done (by kernel_rfl) ?_ _
                clear hHeld4 hHeld3 hHeld2 hHeld1 hHeld
                go_wp2_with fail
                go_roundw
                case rel =>
                  refine ⟨k + 1, by omega, by go_num, _, y.arc x.words.length ((mr, mp), tj), _, _, hW12, Hyok.out.1.arc _ _, Hgo.out, fun b hb h => ?_, ?_, ?_, ?_⟩
                  · have h8r := HKk.out.size
                    have h10 := hk11.size
                    exact HFk.out b hb (hF11 b (by omega) (hs12 b (show b < w11.heap.size by omega) h))
                  · have hA : Kept F2 w8 w10 := HKk.out.next HB10.out
                    have hC : Kept F2 w8 w11 := hA.trans hk11 (fun _ _ h => h) fun b hb h => HFk.out b hb h
                    refine (hC.next (below_drew1 (Below.refl _ _))).trans hK12 (fun _ _ h => h) fun b hb h => HFk.out b hb (hF11 b ?_ h)
                    have h8r := HKk.out.size
                    omega
                  · have h1 := Hyok.out.2.1.length_le
                    have h2 := hlen'.out
                    show x.words.length + 1 ≤ y.words.length
                    omega
                  · have h1 := Hrow.out
                    show ((y.arcs.set x.words.length _).getD x.words.length []).length = k + 1
                    rw [List.getD, List.getElem?_set_self hi0, Option.getD_some, List.length_append, h1]; rfl
                case measure => simp [intOf]; omega
          · obtain rfl : M.length = k := by omega
            have hgo' : goF (visitF L f) x.words.length (x.push l) M = some z := by rw [hgo, List.drop_length]; rfl
            have Hr2 : Hid (visitF L (f + 1) x l = some (x.words.length, z)) := hid_ (by rw [Hres.out, hgo']; rfl)
            have Hfin : Hid (∃ F' vw va, WebAt F' wr Bx Bm B vw va z.words z.words z.arcs ∧ (∀ b, b < w.heap.size → F' b → F b) ∧ Kept F w wr) :=
              hid_ ⟨Fk, vwk, vak, hWk, fun b hb h => hS7.out b hb (hFk b (Nat.lt_of_lt_of_le hb Hk8.out.size) h), hkr⟩
            clear hgo hgo' hWk hz hFk hKk hlen hkr
            go_wp2
            refine bodyPost_ret (v := .tuple #[.int .i64 (x.words.length : Int), .bool true]) (by simp [results, Tryz.results57, go_sem]) rfl ?_
            rw [HPost.out, Hr2.out]
            exact ⟨rfl, Hfin.out⟩
end Go.Proofs.YtebbmhlkdfmmcaaGreat
