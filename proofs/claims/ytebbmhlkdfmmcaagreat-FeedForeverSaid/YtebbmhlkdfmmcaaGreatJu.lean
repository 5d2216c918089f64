import Derived.Test.YtebbmhlkdfmmcaaGreatJt
namespace Go.Proofs.YtebbmhlkdfmmcaaGreat
open Go.RowKit Go.Proofs.Kv

/-! ### explore -/
def ExplorePost (L : List Rl) (l : List Int) (w : World) (e : Ending) (w' : World) : Prop :=
  match exploreF L l with
  | some y => ∃ F Bx Bm vw va, e = .returned (.tuple #[.agg #[vw, .map (some Bm), va], .int .i64 0]) ∧ WebAt F w' Bx Bm w.heap.size vw va y.words y.words y.arcs ∧ WebOk y ∧ Below w.heap.size w w'
  | none => e = .returned (.tuple #[.agg #[.slice none 0 0, .map none, .slice none 0 0], .int .i64 3]) ∧ Below w.heap.size w w'
/-- a web stays while a block is written that is none of its own and holds no numbers -/
theorem WebAt.other {F : Nat → Prop} {w w' : World} {Bx Bm B b0 : Nat} {vw va : Value} {Wn W : List (List Int)} {A : List (List ((Int × Int) × Nat))} {cs : Array Value} {T : TypeId} (h : WebAt F w Bx Bm B vw va Wn W A) (hb : w.heap[b0]? = some (.cells cs T (0, 0)))
    (hcs : ∀ (i : Nat) (x : Int), cs[i]? ≠ some (.int .i64 x)) (hF : ¬ F b0) (hk : Kept (fun b => b = b0) w w') : WebAt F w' Bx Bm B vw va Wn W A := by
  obtain ⟨vs, v1, v2⟩ := h.words
  obtain ⟨us, u1, u2, u3⟩ := h.arcs
  have hne : ∀ b, F b → b ≠ b0 := fun b hb' e => hF (e ▸ hb')
  refine ⟨(hk.block _ (h.lim _ h.fx).2 (hne _ h.fx)).trans h.box, h.nums.block (hk.block _ (h.lim _ h.fm).2 (hne _ h.fm)), ⟨vs, ownsRow_kept v1 hk fun b hb' => hne b (h.fw b hb'), fun i u hu => ?_⟩,
    ⟨us, ownsRow_kept u1 hk fun b hb' => hne b (h.fa b hb'), fun i u hu => ⟨ownsRow_kept (u2 i u hu).1 hk fun b hb' => hne b ((u2 i u hu).2 b hb'), (u2 i u hu).2⟩, u3⟩, h.fx, h.fm, h.fw, h.fa, fun b hb' => ⟨(h.lim b hb').1, Nat.lt_of_lt_of_le (h.lim b hb').2 hk.size⟩⟩
  obtain ⟨a, n, c, rfl, hi, hd⟩ := v2 i u hu
  refine ⟨a, n, c, rfl, hi.kept hk fun b off hn ha e => ?_, hd⟩
  obtain ⟨b', off', ha', _, hc⟩ := hi.cells 0 hn
  rw [ha] at ha'
  injection ha' with ha'; injection ha' with e1 e2
  subst e1; subst e
  rw [Go.Joins.cell_of_block hb] at hc
  exact hcs _ _ hc
theorem keep3 (w : World) (b : Nat) (u0 u1 u2 : Value) : Kept (fun i => i = b) w (((w.setCell ⟨b, 0, none⟩ u0).setCell ⟨b, 1, none⟩ u1).setCell ⟨b, 2, none⟩ u2) :=
  (((Kept.refl (fun i => i = b) w).setCell (p := ⟨b, 0, none⟩) (fun _ => rfl) u0).setCell (p := ⟨b, 1, none⟩) (fun _ => rfl) u1).setCell (p := ⟨b, 2, none⟩) (fun _ => rfl) u2
theorem below3 {w0 w : World} {B : Nat} (h : Below B w0 w) (b : Nat) (hb : B ≤ b) (u0 u1 u2 : Value) : Below B w0 (((w.setCell ⟨b, 0, none⟩ u0).setCell ⟨b, 1, none⟩ u1).setCell ⟨b, 2, none⟩ u2) :=
  ((h.setCell (p := ⟨b, 0, none⟩) hb u0).setCell (p := ⟨b, 1, none⟩) hb u1).setCell (p := ⟨b, 2, none⟩) hb u2
theorem noInts3 (u0 u2 : Option Addr) (n0 c0 n2 c2 : Nat) (m : Option Nat) : ∀ (i : Nat) (x : Int), (#[.slice u0 n0 c0, .map m, .slice u2 n2 c2] : Array Value)[i]? ≠ some (.int .i64 x) := fun i x => by
  match i with
  | 0 => simp
  | 1 => simp
  | 2 => simp
  | i + 3 => simp
def webEmpty : Web := ⟨[], []⟩
theorem heap_after {w : World} {o : Obj} {b : Nat} {x : Obj} (h : w.heap[b]? = some x) : (w.alloc o).heap[b]? = some x := (Below.heap_alloc w o b (Go.lt_of_block h)).trans h
set_option maxRecDepth 100000 in
set_option maxHeartbeats 8000000 in
theorem explore_calls (A : Option Addr) (N C : Nat) (L : List Rl) (a : Option Addr) (n c : Nat) (l : List Int) (w : World) (h : RulesAt w A N C L) (hI : IntsAt w a n c l) (hL : ∀ R ∈ L, validR R = 0) (hN : N ≤ 6) (hl : validW l = 0) :
    Calls Tryz.prog 37 #[.slice A N C, .slice a n c] w (ExplorePost L l w) := by
  have hmm := @run_makeMap Tryz.prog
  have hmf : ∀ (fn : Fn) (first cap : Array Value) (w : World), (Instr.makeFunc fn first cap).run Tryz.prog w = .ok (.func fn first cap) w := fun _ _ _ _ => rfl
  have HPost : Hid (∀ e w', ExplorePost L l w e w' = (match exploreF L l with
    | some y => ∃ F Bx Bm vw va, e = .returned (.tuple #[.agg #[vw, .map (some Bm), va], .int .i64 0]) ∧ WebAt F w' Bx Bm w.heap.size vw va y.words y.words y.arcs ∧ WebOk y ∧ Below w.heap.size w w'
    | none => e = .returned (.tuple #[.agg #[.slice none 0 0, .map none, .slice none 0 0], .int .i64 3]) ∧ Below w.heap.size w w')) := hid_ (fun e w' => rfl)
  obtain ⟨w1, hw1⟩ : ∃ w1, w.alloc (.cells #[.slice A N C] 22) = w1 := ⟨_, rfl⟩
  obtain ⟨w2, hw2⟩ : ∃ w2, w1.alloc (.cells #[.slice none 0 0, .map none, .slice none 0 0] 49) = w2 := ⟨_, rfl⟩
  obtain ⟨wm, hwm⟩ : ∃ wm, w2.alloc (.map #[] 0) = wm := ⟨_, rfl⟩
  obtain ⟨w3, hw3⟩ : ∃ w3, wm.alloc (.cells #[.slice none 0 0, .map (some (w.heap.size + 1 + 1)), .slice none 0 0] 49) = w3 := ⟨_, rfl⟩
  obtain ⟨w4, hw4⟩ : ∃ w4, w3.alloc (.cells #[.func (.func 57) #[] #[.pointer (some ⟨w.heap.size + 1 + 1 + 1, 0, none⟩), .pointer (some ⟨w.heap.size, 0, none⟩), .pointer (some ⟨w.heap.size + 1 + 1 + 1 + 1, 0, none⟩)]] 86) = w4 := ⟨_, rfl⟩
  have z1 : w1.heap.size = w.heap.size + 1 := by rw [← hw1]; simp
  have z2 : w2.heap.size = w.heap.size + 1 + 1 := by rw [← hw2, ← z1]; simp
  have zm : wm.heap.size = w.heap.size + 1 + 1 + 1 := by rw [← hwm, ← z2]; simp
  have z3 : w3.heap.size = w.heap.size + 1 + 1 + 1 + 1 := by rw [← hw3, ← zm]; simp
  have z4 : w4.heap.size = w.heap.size + 1 + 1 + 1 + 1 + 1 := by rw [← hw4, ← z3]; simp
  have bs1 : w1.heap[w.heap.size]? = some (.cells #[.slice A N C] 22 (0, 0)) := by rw [← hw1]; exact heap_alloc_at _ _
  have bm0 : NumsAt wm (w.heap.size + 1 + 1) [] := by rw [← hwm, ← z2]; exact NumsAt.new w2
  have bx3 : w3.heap[w.heap.size + 1 + 1 + 1]? = some (.cells #[.slice none 0 0, .map (some (w.heap.size + 1 + 1)), .slice none 0 0] 49 (0, 0)) := by rw [← hw3, ← zm]; exact heap_alloc_at _ _
  have bv4 : w4.heap[w.heap.size + 1 + 1 + 1 + 1]? = some (.cells #[.func (.func 57) #[] #[.pointer (some ⟨w.heap.size + 1 + 1 + 1, 0, none⟩), .pointer (some ⟨w.heap.size, 0, none⟩), .pointer (some ⟨w.heap.size + 1 + 1 + 1 + 1, 0, none⟩)]] 86 (0, 0)) := by rw [← hw4, ← z3]; exact heap_alloc_at _ _
  have c12 : Below w1.heap.size w1 w2 := by rw [← hw2]; exact below_alloc _ _
  have c2m : Below w2.heap.size w2 wm := by rw [← hwm]; exact below_alloc _ _
  have cm3 : Below wm.heap.size wm w3 := by rw [← hw3]; exact below_alloc _ _
  have c34 : Below w3.heap.size w3 w4 := by rw [← hw4]; exact below_alloc _ _
  have cm4 : Below wm.heap.size wm w4 := cm3.trans (c34.mono cm3.size)
  have c14 : Below w1.heap.size w1 w4 := c12.trans ((c2m.trans (cm4.mono c2m.size)).mono c12.size)
  have c04 : Below w.heap.size w w4 := (by rw [← hw1]; exact below_alloc _ _ : Below w.heap.size w w1).trans (c14.mono (by omega))
  have bs4 : w4.heap[w.heap.size]? = some (.cells #[.slice A N C] 22 (0, 0)) := (c14.block _ (by omega)).trans bs1
  have bx4 := (c34.block (w.heap.size + 1 + 1 + 1) (by omega)).trans bx3
  have bm4 : NumsAt w4 (w.heap.size + 1 + 1) [] := bm0.block (cm4.block _ (by omega))
  have cv4 := Go.cell_of_one bv4
  have HW4 : Hid (WebAt (fun b => b = w.heap.size + 1 + 1 + 1 ∨ b = w.heap.size + 1 + 1) w4 (w.heap.size + 1 + 1 + 1) (w.heap.size + 1 + 1) w.heap.size (.slice none 0 0) (.slice none 0 0) webEmpty.words webEmpty.words webEmpty.arcs) := hid_
    ⟨bx4, bm4, ⟨[], World.ownsRow_nil _ _ _ _, fun i u hu => (by simp at hu)⟩, ⟨[], World.ownsRow_nil _ _ _ _, fun i u hu => (by simp at hu), fun i j u u' b hu => (by simp at hu)⟩, .inl rfl, .inr rfl, fun b hb => (by cases hb), fun b hb => (by cases hb), fun b hb => (by omega)⟩
  have HOk : WebOk webEmpty := ⟨by simp [webEmpty], rfl, List.nodup_nil, fun l hl => by cases hl⟩
  have hbd : Below w4.heap.size w4 w4.drew := below_drew1 (Below.refl _ _)
  have HCl := hid_ (fun W (hW : Below w4.heap.size w4 W) => clone_calls a n c l W ((hI.below c04 (Nat.le_refl _)).below hW (Nat.le_refl _)) (by have := (validW_ok hl).1; have := hI.len; omega))
  have HVis := hid_ (fun W a5 n5 c5 (hW : Below w4.heap.size w4 W) (h5 : IntsAt W a5 n5 c5 l) (h6 : ∀ b off, 0 < n5 → a5 = some ⟨b, off, none⟩ → w4.heap.size ≤ b) =>
    visit_calls A N C L w h hL hN (w.heap.size + 1 + 1 + 1) (w.heap.size + 1 + 1) w.heap.size w.heap.size (w.heap.size + 1 + 1 + 1 + 1) (Nat.le_refl _) 301 (fun b => b = w.heap.size + 1 + 1 + 1 ∨ b = w.heap.size + 1 + 1) W webEmpty _ _ a5 n5 c5 l (HW4.out.next hW) HOk (by simp [webEmpty]) h5
      (fun b off hn ha g => by have := h6 b off hn ha; omega) hl (c04.trans (hW.mono c04.size)) ((hW.block _ (by omega)).trans bs4) (by omega) ((hW.block _ (by omega)).trans bv4) (by omega))
  have hFv : ¬ (fun b => b = w.heap.size + 1 + 1 + 1 ∨ b = w.heap.size + 1 + 1) (w.heap.size + 1 + 1 + 1 + 1) := by simp only; omega
  have HC04 := hid_ c04
  have eg : ∀ args w, (callFunc 57 args).run Tryz.prog w = .ok (.enter 57 args) w := enters_of Tryz.func57 (by kernel_rfl) rfl
  have Hr4 : Hid (w4.cell? ⟨w.heap.size + 1, 0, none⟩ = some (.slice none 0 0) ∧ w4.cell? ⟨w.heap.size + 1, 1, none⟩ = some (.map none) ∧ w4.cell? ⟨w.heap.size + 1, 2, none⟩ = some (.slice none 0 0) ∧ ∀ i, w4.frozen? ⟨w.heap.size + 1, i, none⟩ = false) := hid_ (by
    have br2 : w2.heap[w.heap.size + 1]? = some (.cells #[.slice none 0 0, .map none, .slice none 0 0] 49 (0, 0)) := by rw [← hw2, ← z1]; exact heap_alloc_at _ _
    have br4 := ((c2m.trans (cm4.mono c2m.size)).block (w.heap.size + 1) (by omega)).trans br2
    exact ⟨by rw [Go.Joins.cell_of_block br4]; rfl, by rw [Go.Joins.cell_of_block br4]; rfl, by rw [Go.Joins.cell_of_block br4]; rfl, fun i => Go.Joins.unfrozen_of_block br4 i⟩)
  have Hz4 := hid_ z4
  have Hbr4 : Hid (w4.heap[w.heap.size + 1]? = some (.cells #[.slice none 0 0, .map none, .slice none 0 0] 49 (0, 0))) := hid_ (by
    have br2 : w2.heap[w.heap.size + 1]? = some (.cells #[.slice none 0 0, .map none, .slice none 0 0] 49 (0, 0)) := by rw [← hw2, ← z1]; exact heap_alloc_at _ _
    exact ((c2m.trans (cm4.mono c2m.size)).block (w.heap.size + 1) (by omega)).trans br2)
  have HF1 : Hid (¬ (fun b => b = w.heap.size + 1 + 1 + 1 ∨ b = w.heap.size + 1 + 1) (w.heap.size + 1)) := hid_ (by simp only; omega)
  have Hw1 := hid_ hw1; have Hw2 := hid_ hw2; have Hwm := hid_ hwm; have Hw3 := hid_ hw3; have Hw4 := hid_ hw4
  clear hw1 hw2 hwm hw3 hw4
  have hL' := hL; have hl' := hl; have HOk' := HOk
  clear bs1 bm0 bx3 bv4 c12 c2m cm3 c34 cm4 c14 bs4 bx4 bm4 z1 z2 zm z3 z4 c04 HOk hI hL hl
  cases hv : visitF L 301 webEmpty l with
  | some r =>
    obtain ⟨i6, y⟩ := r
    have Hres : Hid (exploreF L l = some y) := hid_ (by rw [exploreF]; show Option.map _ (visitF L 301 webEmpty l) = _; rw [hv]; rfl)
    have hok := visitF_ok hL' 301 HOk' hl' hv
    have HY := hid_ hok.1
    have Hpos : Hid (0 < y.words.length ∧ 0 < y.arcs.length) := hid_ (by have h1 := hok.2.2.1; have h2 := hok.1.same; omega)
    have HV2 : Hid (∀ W a5 n5 c5, Below w4.heap.size w4 W → IntsAt W a5 n5 c5 l → (∀ b off, 0 < n5 → a5 = some ⟨b, off, none⟩ → w4.heap.size ≤ b) → Calls Tryz.prog 57 #[.slice a5 n5 c5, .pointer (some ⟨w.heap.size + 1 + 1 + 1, 0, none⟩), .pointer (some ⟨w.heap.size, 0, none⟩), .pointer (some ⟨w.heap.size + 1 + 1 + 1 + 1, 0, none⟩)] W fun e w' =>
      e = .returned (.tuple #[.int .i64 (i6 : Int), .bool true]) ∧ ∃ F' vw va, WebAt F' w' (w.heap.size + 1 + 1 + 1) (w.heap.size + 1 + 1) w.heap.size vw va y.words y.words y.arcs ∧ (∀ b, b < W.heap.size → F' b → b = w.heap.size + 1 + 1 + 1 ∨ b = w.heap.size + 1 + 1) ∧ Kept (fun b => b = w.heap.size + 1 + 1 + 1 ∨ b = w.heap.size + 1 + 1) W w') :=
      hid_ (fun W a5 n5 c5 h1 h2 h3 => (HVis.out W a5 n5 c5 h1 h2 h3).mono fun e w' hh => by unfold VisitPost at hh; rw [hv] at hh; exact hh)
    have HVis := HV2
    clear hok hv hL' HOk' hl'
    go_enter Tryz.func37, Tryz.ntmps37
    go_wp2_with fail
    rw [Hw1.out, Hw2.out, Hwm.out, Hw3.out, Hw4.out]
    refine wp_region_held_drew (S := (fun W => W.cell? ⟨w.heap.size + 1 + 1 + 1 + 1, 0, none⟩ = some (.func (.func 57) #[] #[.pointer (some ⟨w.heap.size + 1 + 1 + 1, 0, none⟩), .pointer (some ⟨w.heap.size, 0, none⟩), .pointer (some ⟨w.heap.size + 1 + 1 + 1 + 1, 0, none⟩)]))) (by kernel_rfl) cv4 (fun hHeld => ?_)
    refine wpAnyH_take (i := 0) (oi := ?oi0a) (v := ?v0a) ?hi0a (by kernel_rfl) ?hf0a (by kernel_rfl) ?hQ0a ?hy0a (by assumption) ?rest0a
    case hi0a => (simp only [List.getElem?_toArray, List.getElem?_cons_zero]; rfl)
    case hf0a => kernel_rfl
    case hQ0a => exact fun _ _ _ h => h
    case hy0a => (refine Or.inl ⟨by rfl, ?_⟩; intro W hSw; (try dsimp only at hSw); go_simp; try with_reducible rfl)
    try simp only [Act.put, List.setIfInBounds_toArray, List.set_cons_zero, List.set_cons_succ]
    refine wpAnyH_take (i := 1) (oi := ?oi1a) (v := ?v1a) ?hi1a (by kernel_rfl) ?hf1a (by kernel_rfl) ?hQ1a ?hy1a (by assumption) ?rest1a
    case hi1a => (simp only [List.getElem?_toArray, List.getElem?_cons_succ, List.getElem?_cons_zero]; rfl)
    case hf1a => kernel_rfl
    case hQ1a => exact fun _ _ _ h => h
    case hy1a => (refine Or.inl ⟨by rfl, ?_⟩; intro W hSw; (try dsimp only at hSw); go_simp; try with_reducible rfl)
    try simp only [Act.put, List.setIfInBounds_toArray, List.set_cons_zero, List.set_cons_succ]
    refine wpAnyH_ready (rs := [2]) (by kernel_rfl) (by simp) ?_
    refine AllReadyH.cons (o := _) (by (simp only [List.getElem?_toArray, List.getElem?_cons_succ, List.getElem?_cons_zero]; rfl)) (fun K hK => ?_) AllReadyH.nil
    go_simp
    (go_at_call 59; (with_reducible refine (HCl.out _ hbd).mono ?_); rintro e w5 ⟨v5, rfl, hm5⟩; have hlt5 := hm5.own.lt; have hb5 := hm5.bel; obtain ⟨a5, c5, rfl, hI5⟩ := hm5.at_)
    refine hK.out _ _ ?_ (fun hHeld2 => ?_)
    · exact cell_below cv4 (hbd.trans (hb5.mono hbd.size))
    clear hK K
    try simp only [Act.put, List.setIfInBounds_toArray, List.set_cons_zero, List.set_cons_succ]
    have hb45 : Below w4.heap.size w4 w5 := hbd.trans (hb5.mono hbd.size)
    have HV := hid_ (HVis.out w5 a5 _ c5 hb45 hI5 (fun b off hn ha => by subst ha; exact (hlt5 b rfl).1))
    have hHeldV := hHeld2
    refine wpAnyH_ready (rs := [3]) (by kernel_rfl) (by simp) ?_
    refine AllReadyH.cons (o := _) (by (simp only [List.getElem?_toArray, List.getElem?_cons_succ, List.getElem?_cons_zero]; rfl)) (fun K hK => ?_) AllReadyH.nil
    go_simp
    (go_at_call 57; (with_reducible refine HV.out.mono ?_); rintro e w6 ⟨rfl, F6, vw6, va6, hW6, hF6, hk6⟩)
    refine hK.out _ _ ?_ (fun hHeld3 => ?_)
    · exact hk6.cell hHeldV hFv
    clear hK K
    try simp only [Act.put, List.setIfInBounds_toArray, List.set_cons_zero, List.set_cons_succ]
    refine wpAnyH_take (i := 4) (oi := ?oi4a) (v := ?v4a) ?hi4a (by kernel_rfl) ?hf4a (by kernel_rfl) ?hQ4a ?hy4a (by assumption) ?rest4a
    case hi4a => (simp only [List.getElem?_toArray, List.getElem?_cons_succ, List.getElem?_cons_zero]; rfl)
    case hf4a => kernel_rfl
    case hQ4a => exact fun _ _ _ h => h
    case hy4a => (refine Or.inl ⟨by rfl, ?_⟩; intro W hSw; (try dsimp only at hSw); go_simp; try with_reducible rfl)
    try simp only [Act.put, List.setIfInBounds_toArray, List.set_cons_zero, List.set_cons_succ]
    refine wpAnyH_take (i := 5) (oi := ?oi5a) (v := ?v5a) ?hi5a (by kernel_rfl) ?hf5a (by kernel_rfl) ?hQ5a ?hy5a (by assumption) ?rest5a
    case hi5a => (simp only [List.getElem?_toArray, List.getElem?_cons_succ, List.getElem?_cons_zero]; rfl)
    case hf5a => kernel_rfl
    case hQ5a => exact fun _ _ _ h => h
    case hy5a => (refine Or.inl ⟨by rfl, ?_⟩; intro W hSw; (try dsimp only at hSw); go_simp; try with_reducible rfl)
    try simp only [Act.put, List.setIfInBounds_toArray, List.set_cons_zero, List.set_cons_succ]
    refine wpAnyH_take (i := 6) (oi := ?oi6a) (v := ?v6a) ?hi6a (by kernel_rfl) ?hf6a (by kernel_rfl) ?hQ6a ?hy6a (by assumption) ?rest6a
    case hi6a => (simp only [List.getElem?_toArray, List.getElem?_cons_succ, List.getElem?_cons_zero]; rfl)
    case hf6a => kernel_rfl
    case hQ6a => exact fun _ _ _ h => h
    case hy6a => (refine Or.inl ⟨by rfl, ?_⟩; intro W hSw; (try dsimp only at hSw); go_simp; try with_reducible rfl)
    try simp only [Act.put, List.setIfInBounds_toArray, List.set_cons_zero, List.set_cons_succ]
    refine wpAnyH_take (i := 7) (oi := ?oi7a) (v := ?v7a) ?hi7a (by kernel_rfl) ?hf7a (by kernel_rfl) ?hQ7a ?hy7a (by assumption) ?rest7a
    case hi7a => (simp only [List.getElem?_toArray, List.getElem?_cons_succ, List.getElem?_cons_zero]; rfl)
    case hf7a => kernel_rfl
    case hQ7a => exact fun _ _ _ h => h
    case hy7a => (refine Or.inl ⟨by rfl, ?_⟩; intro W hSw; (try dsimp only at hSw); go_simp; try with_reducible rfl)
    try simp only [Act.put, List.setIfInBounds_toArray, List.set_cons_zero, List.set_cons_succ]
    refine wpAnyH_take (i := 8) (oi := ?oi8a) (v := ?v8a) ?hi8a (by kernel_rfl) ?hf8a (by kernel_rfl) ?hQ8a ?hy8a (by assumption) ?rest8a
    case hi8a => (simp only [List.getElem?_toArray, List.getElem?_cons_succ, List.getElem?_cons_zero]; rfl)
    case hf8a => kernel_rfl
    case hQ8a => exact fun _ _ _ h => h
    case hy8a => (refine Or.inl ⟨by rfl, ?_⟩; intro W hSw; (try dsimp only at hSw); go_simp; try with_reducible rfl)
    try simp only [Act.put, List.setIfInBounds_toArray, List.set_cons_zero, List.set_cons_succ]
    refine wpAnyH_done (by kernel_rfl) ?_ _
    clear hHeld hHeld2 hHeldV hHeld3
    obtain ⟨gw, kw, rfl⟩ := (let ⟨vs, v1, _⟩ := hW6.words; own_slice v1 Hpos.out.1)
    obtain ⟨ga, ka, rfl⟩ := (let ⟨us, u1, _⟩ := hW6.arcs; own_slice u1 Hpos.out.2)
    obtain ⟨t0, t1, t2, tf⟩ := hW6.cells
    obtain ⟨r0, r1, r2, rf⟩ := Hr4.out
    have o0 := hk6.cell (cell_below r0 hb45) HF1.out
    have o1 := hk6.cell (cell_below r1 hb45) HF1.out
    have o2 := hk6.cell (cell_below r2 hb45) HF1.out
    have of_ : ∀ i, w6.frozen? ⟨w.heap.size + 1, i, none⟩ = false := fun i => by
      have hb : w.heap.size + 1 < w4.heap.size := by rw [Hz4.out]; omega
      rw [World.frozen?_of_block (w := w5) (w' := w6) (a := ⟨w.heap.size + 1, i, none⟩) (hk6.block _ (Nat.lt_of_lt_of_le hb hb45.size) HF1.out), World.frozen?_of_block (w := w4) (w' := w5) (a := ⟨w.heap.size + 1, i, none⟩) (hb45.block _ hb)]
      exact rf i
    have HW6 := hid_ hW6
    have Hk6 := hid_ hk6
    have br6 : w6.heap[w.heap.size + 1]? = some (.cells #[.slice none 0 0, .map none, .slice none 0 0] 49 (0, 0)) := by
      have hb : w.heap.size + 1 < w4.heap.size := by rw [Hz4.out]; omega
      exact (hk6.block _ (Nat.lt_of_lt_of_le hb hb45.size) HF1.out).trans ((hb45.block _ hb).trans Hbr4.out)
    have hF6' : ¬ F6 (w.heap.size + 1) := fun hh => HF1.out (hF6 _ (by have := hb45.size; rw [Hz4.out] at this; omega) hh)
    have Hfin : Hid (Below w.heap.size w w6) := hid_ (HC04.out.trans ((hb45.mono HC04.out.size).trans (hk6.below (Nat.le_trans HC04.out.size hb45.size) fun i hi => by omega)))
    clear hW6 hk6 hF6 r0 r1 r2 rf
    have Hbr := hid_ br6
    have HF6 := hid_ hF6'
    clear br6 hF6'
    go_wp2
    refine bodyPost_ret (v := .tuple #[.agg #[.slice (some ⟨gw, 0, none⟩) y.words.length kw, .map (some (w.heap.size + 1 + 1)), .slice (some ⟨ga, 0, none⟩) y.arcs.length ka], .int .i64 0]) (by simp [results, Tryz.results37, go_sem, o0, o1, o2]) rfl ?_
    rw [HPost.out, Hres.out]
    exact ⟨F6, _, _, _, _, rfl, HW6.out.other Hbr.out (noInts3 _ _ _ _ _ _ _) HF6.out (keep3 _ _ _ _ _), HY.out, below3 Hfin.out _ (Nat.le_succ _) _ _ _⟩
  | none =>
    have Hres : Hid (exploreF L l = none) := hid_ (by rw [exploreF]; show Option.map _ (visitF L 301 webEmpty l) = _; rw [hv]; rfl)
    have HV2 : Hid (∀ W a5 n5 c5, Below w4.heap.size w4 W → IntsAt W a5 n5 c5 l → (∀ b off, 0 < n5 → a5 = some ⟨b, off, none⟩ → w4.heap.size ≤ b) → Calls Tryz.prog 57 #[.slice a5 n5 c5, .pointer (some ⟨w.heap.size + 1 + 1 + 1, 0, none⟩), .pointer (some ⟨w.heap.size, 0, none⟩), .pointer (some ⟨w.heap.size + 1 + 1 + 1 + 1, 0, none⟩)] W fun e w' =>
      e = .returned (.tuple #[.int .i64 0, .bool false]) ∧ Kept (fun b => b = w.heap.size + 1 + 1 + 1 ∨ b = w.heap.size + 1 + 1) W w') :=
      hid_ (fun W a5 n5 c5 h1 h2 h3 => (HVis.out W a5 n5 c5 h1 h2 h3).mono fun e w' hh => by unfold VisitPost at hh; rw [hv] at hh; exact hh)
    have HVis := HV2
    clear hv hL' HOk' hl'
    go_enter Tryz.func37, Tryz.ntmps37
    go_wp2_with fail
    rw [Hw1.out, Hw2.out, Hwm.out, Hw3.out, Hw4.out]
    refine wp_region_held_drew (S := (fun W => W.cell? ⟨w.heap.size + 1 + 1 + 1 + 1, 0, none⟩ = some (.func (.func 57) #[] #[.pointer (some ⟨w.heap.size + 1 + 1 + 1, 0, none⟩), .pointer (some ⟨w.heap.size, 0, none⟩), .pointer (some ⟨w.heap.size + 1 + 1 + 1 + 1, 0, none⟩)]))) (by kernel_rfl) cv4 (fun hHeld => ?_)
    refine wpAnyH_take (i := 0) (oi := ?oi0b) (v := ?v0b) ?hi0b (by kernel_rfl) ?hf0b (by kernel_rfl) ?hQ0b ?hy0b (by assumption) ?rest0b
    case hi0b => (simp only [List.getElem?_toArray, List.getElem?_cons_zero]; rfl)
    case hf0b => kernel_rfl
    case hQ0b => exact fun _ _ _ h => h
    case hy0b => (refine Or.inl ⟨by rfl, ?_⟩; intro W hSw; (try dsimp only at hSw); go_simp; try with_reducible rfl)
    try simp only [Act.put, List.setIfInBounds_toArray, List.set_cons_zero, List.set_cons_succ]
    refine wpAnyH_take (i := 1) (oi := ?oi1b) (v := ?v1b) ?hi1b (by kernel_rfl) ?hf1b (by kernel_rfl) ?hQ1b ?hy1b (by assumption) ?rest1b
    case hi1b => (simp only [List.getElem?_toArray, List.getElem?_cons_succ, List.getElem?_cons_zero]; rfl)
    case hf1b => kernel_rfl
    case hQ1b => exact fun _ _ _ h => h
    case hy1b => (refine Or.inl ⟨by rfl, ?_⟩; intro W hSw; (try dsimp only at hSw); go_simp; try with_reducible rfl)
    try simp only [Act.put, List.setIfInBounds_toArray, List.set_cons_zero, List.set_cons_succ]
    refine wpAnyH_ready (rs := [2]) (by kernel_rfl) (by simp) ?_
    refine AllReadyH.cons (o := _) (by (simp only [List.getElem?_toArray, List.getElem?_cons_succ, List.getElem?_cons_zero]; rfl)) (fun K hK => ?_) AllReadyH.nil
    go_simp
    (go_at_call 59; (with_reducible refine (HCl.out _ hbd).mono ?_); rintro e w5 ⟨v5, rfl, hm5⟩; have hlt5 := hm5.own.lt; have hb5 := hm5.bel; obtain ⟨a5, c5, rfl, hI5⟩ := hm5.at_)
    refine hK.out _ _ ?_ (fun hHeld2 => ?_)
    · exact cell_below cv4 (hbd.trans (hb5.mono hbd.size))
    clear hK K
    try simp only [Act.put, List.setIfInBounds_toArray, List.set_cons_zero, List.set_cons_succ]
    have hb45 : Below w4.heap.size w4 w5 := hbd.trans (hb5.mono hbd.size)
    have HV := hid_ (HVis.out w5 a5 _ c5 hb45 hI5 (fun b off hn ha => by subst ha; exact (hlt5 b rfl).1))
    have hHeldV := hHeld2
    refine wpAnyH_ready (rs := [3]) (by kernel_rfl) (by simp) ?_
    refine AllReadyH.cons (o := _) (by (simp only [List.getElem?_toArray, List.getElem?_cons_succ, List.getElem?_cons_zero]; rfl)) (fun K hK => ?_) AllReadyH.nil
    go_simp
    (go_at_call 57; (with_reducible refine HV.out.mono ?_); rintro e w6 ⟨rfl, hk6⟩)
    refine hK.out _ _ ?_ (fun hHeld3 => ?_)
    · exact hk6.cell hHeldV hFv
    clear hK K
    try simp only [Act.put, List.setIfInBounds_toArray, List.set_cons_zero, List.set_cons_succ]
    refine wpAnyH_take (i := 4) (oi := ?oi4b) (v := ?v4b) ?hi4b (by kernel_rfl) ?hf4b (by kernel_rfl) ?hQ4b ?hy4b (by assumption) ?rest4b
    case hi4b => (simp only [List.getElem?_toArray, List.getElem?_cons_succ, List.getElem?_cons_zero]; rfl)
    case hf4b => kernel_rfl
    case hQ4b => exact fun _ _ _ h => h
    case hy4b => (refine Or.inl ⟨by rfl, ?_⟩; intro W hSw; (try dsimp only at hSw); go_simp; try with_reducible rfl)
    try simp only [Act.put, List.setIfInBounds_toArray, List.set_cons_zero, List.set_cons_succ]
    refine wpAnyH_take (i := 5) (oi := ?oi5b) (v := ?v5b) ?hi5b (by kernel_rfl) ?hf5b (by kernel_rfl) ?hQ5b ?hy5b (by assumption) ?rest5b
    case hi5b => (simp only [List.getElem?_toArray, List.getElem?_cons_succ, List.getElem?_cons_zero]; rfl)
    case hf5b => kernel_rfl
    case hQ5b => exact fun _ _ _ h => h
    case hy5b => (refine Or.inl ⟨by rfl, ?_⟩; intro W hSw; (try dsimp only at hSw); go_simp; try with_reducible rfl)
    try simp only [Act.put, List.setIfInBounds_toArray, List.set_cons_zero, List.set_cons_succ]
    refine wpAnyH_take (i := 6) (oi := ?oi6b) (v := ?v6b) ?hi6b (by kernel_rfl) ?hf6b (by kernel_rfl) ?hQ6b ?hy6b (by assumption) ?rest6b
    case hi6b => (simp only [List.getElem?_toArray, List.getElem?_cons_succ, List.getElem?_cons_zero]; rfl)
    case hf6b => kernel_rfl
    case hQ6b => exact fun _ _ _ h => h
    case hy6b => (refine Or.inl ⟨by rfl, ?_⟩; intro W hSw; (try dsimp only at hSw); go_simp; try with_reducible rfl)
    try simp only [Act.put, List.setIfInBounds_toArray, List.set_cons_zero, List.set_cons_succ]
    refine wpAnyH_take (i := 7) (oi := ?oi7b) (v := ?v7b) ?hi7b (by kernel_rfl) ?hf7b (by kernel_rfl) ?hQ7b ?hy7b (by assumption) ?rest7b
    case hi7b => (simp only [List.getElem?_toArray, List.getElem?_cons_succ, List.getElem?_cons_zero]; rfl)
    case hf7b => kernel_rfl
    case hQ7b => exact fun _ _ _ h => h
    case hy7b => (refine Or.inl ⟨by rfl, ?_⟩; intro W hSw; (try dsimp only at hSw); go_simp; try with_reducible rfl)
    try simp only [Act.put, List.setIfInBounds_toArray, List.set_cons_zero, List.set_cons_succ]
    refine wpAnyH_take (i := 8) (oi := ?oi8b) (v := ?v8b) ?hi8b (by kernel_rfl) ?hf8b (by kernel_rfl) ?hQ8b ?hy8b (by assumption) ?rest8b
    case hi8b => (simp only [List.getElem?_toArray, List.getElem?_cons_succ, List.getElem?_cons_zero]; rfl)
    case hf8b => kernel_rfl
    case hQ8b => exact fun _ _ _ h => h
    case hy8b => (refine Or.inl ⟨by rfl, ?_⟩; intro W hSw; (try dsimp only at hSw); go_simp; try with_reducible rfl)
    try simp only [Act.put, List.setIfInBounds_toArray, List.set_cons_zero, List.set_cons_succ]
    refine wpAnyH_done (by kernel_rfl) ?_ _
    clear hHeld hHeld2 hHeldV hHeld3
    obtain ⟨r0, r1, r2, rf⟩ := Hr4.out
    have o0 := hk6.cell (cell_below r0 hb45) HF1.out
    have o1 := hk6.cell (cell_below r1 hb45) HF1.out
    have o2 := hk6.cell (cell_below r2 hb45) HF1.out
    have of_ : ∀ i, w6.frozen? ⟨w.heap.size + 1, i, none⟩ = false := fun i => by
      have hb : w.heap.size + 1 < w4.heap.size := by rw [Hz4.out]; omega
      rw [World.frozen?_of_block (w := w5) (w' := w6) (a := ⟨w.heap.size + 1, i, none⟩) (hk6.block _ (Nat.lt_of_lt_of_le hb hb45.size) HF1.out), World.frozen?_of_block (w := w4) (w' := w5) (a := ⟨w.heap.size + 1, i, none⟩) (hb45.block _ hb)]
      exact rf i
    have Hfin : Hid (Below w.heap.size w w6) := hid_ (HC04.out.trans ((hb45.mono HC04.out.size).trans (hk6.below (Nat.le_trans HC04.out.size hb45.size) fun i hi => by omega)))
    clear hk6 r0 r1 r2 rf
    go_wp2
    refine bodyPost_ret (v := .tuple #[.agg #[.slice none 0 0, .map none, .slice none 0 0], .int .i64 3]) (by simp [results, Tryz.results37, go_sem, o0, o1, o2]) rfl ?_
    rw [HPost.out, Hres.out]
    exact ⟨rfl, below3 Hfin.out _ (Nat.le_succ _) _ _ _⟩
end Go.Proofs.YtebbmhlkdfmmcaaGreat
