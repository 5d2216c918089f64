import Derived.Test.YtgpenbajhndhiaaVu
namespace Go.Proofs.Ytgpenbajhndhiaa
open Go.RowKit Go.Proofs.Kv Go

/-! ### Two, IsCode, CheckTwo of the program -/
def TwoIs (L : Lx) (s l : List Int) (ok : Bool) : Prop := (validL L ≠ 0 → ok = false ∧ s = [] ∧ l = []) ∧ (validL L = 0 → CodeIs L (!ok) ∧ (ok = true → s ≠ l ∧ itemsB L s = true ∧ itemsB L l = true ∧ wordsL L s = wordsL L l ∧ s.length + l.length ≤ 130) ∧ (ok = false → s = [] ∧ l = []))
theorem GoodPr.two {L : Lx} {p : Pr} (h : GoodPr L p) (h0 : p.left = []) : p.short ≠ p.long ∧ itemsB L p.short = true ∧ itemsB L p.long = true ∧ wordsL L p.short = wordsL L p.long := by
  obtain ⟨i, j, a, b, hne, e1, e2⟩ := h.hd
  refine ⟨fun e => hne ?_, h.sh, h.lo, by have := h.eq; rw [h0, List.append_nil] at this; exact this⟩
  rw [e1, e2] at e
  injection e with e _
  omega
set_option maxRecDepth 100000 in
set_option maxHeartbeats 4000000 in
theorem taTwo_calls (v : Value) (L : Lx) (w : World) (h : LexAt w v L) :
    Calls Try.prog 40 #[v] w fun e w' => ∃ v1 v2 s l ok, e = .returned (.tuple #[v1, v2, .bool ok, .int .i64 (validL L)]) ∧ SlAt w' none v1 s ∧ SlAt w' none v2 l ∧ TwoIs L s l ok ∧ Below w.heap.size w w' := by
  have HP := hid_ h
  obtain ⟨a1, n1, c1, a2, n2, c2, rfl, h1, h2⟩ := h
  obtain ⟨w1, hw1⟩ : ∃ w1, w.alloc (.cells #[.slice a1 n1 c1, .slice a2 n2 c2] 25) = w1 := ⟨_, rfl⟩
  have cb : Below w.heap.size w w1 := by rw [← hw1]; exact below_alloc _ _
  have q0 : w1.cell? ⟨w.heap.size, 0, none⟩ = some (.slice a1 n1 c1) := by rw [← hw1]; exact cells_alloc _ _ _ 0
  have q1 : w1.cell? ⟨w.heap.size, 1, none⟩ = some (.slice a2 n2 c2) := by rw [← hw1]; exact cells_alloc _ _ _ 1
  have HP1 := hid_ (HP.out.below cb (Nat.le_refl _)); have Hc1 := hid_ cb
  have HV := hid_ (taValidate_calls _ L w1 HP1.out)
  have HQ := hid_ (fun W (hW : Below w1.heap.size w1 W) => (⟨cell_below q0 hW, cell_below q1 hW⟩ : _ ∧ _))
  have HT := hid_ (fun W (hW : Below w1.heap.size w1 W) (g : GoodL L) => two_calls _ L W (HP1.out.below hW (Nat.le_refl _)) g)
  clear h1 h2 HP HP1 cb
  by_cases he : validL L = 0
  · have g := validL_ok he
    have He := hid_ he
    rw [he] at HV
    go_enter Try.func40, Try.ntmps40
    rw [he]
    clear he
    go_wp2_with (first
      | (go_at_call 44; (with_reducible refine HV.out.mono ?_); rintro e w2 ⟨rfl, hb2⟩; obtain ⟨q2, r2⟩ := HQ.out w2 hb2)
      | (go_at_call 62; (with_reducible refine (HT.out _ hb2 g).mono ?_); rintro e w3 ⟨x1, x2, x3, p, ok, rfl, hp3, hcd, hok, hno, hb3⟩; obtain ⟨f1, k1, d1, f2, k2, d2, f3, k3, d3, rfl, rfl, rfl⟩ := PrAt.lits hp3; obtain ⟨w4, hw4⟩ : ∃ w4, w3.alloc (.cells #[.slice f1 k1 d1, .slice f2 k2 d2, .slice f3 k3 d3] 91) = w4 := ⟨_, rfl⟩; have c4 : Below w3.heap.size w3 w4 := (by rw [← hw4]; exact below_alloc _ _); have e0 : w4.cell? ⟨w3.heap.size, 0, none⟩ = some (.slice f1 k1 d1) := (by rw [← hw4]; exact cells_alloc _ _ _ 0); have e1 : w4.cell? ⟨w3.heap.size, 1, none⟩ = some (.slice f2 k2 d2) := (by rw [← hw4]; exact cells_alloc _ _ _ 1); have Hp4 := hid_ (hp3.below c4 (Nat.le_refl _)); have Hb4 := hid_ (hb2.trans ((hb3.trans (c4.mono hb3.size)).mono hb2.size)); have Hcd := hid_ hcd; have Hok := hid_ hok; have Hno := hid_ hno; clear hp3 hb3 c4 hcd hok hno))
    go_wp2_with fail
    go_quiet (fail)
    go_wp2
    refine bodyPost_ret (v := .tuple #[.slice f1 k1 d1, .slice f2 k2 d2, .bool ok, .int .i64 0]) ?_ rfl ⟨_, _, p.short, p.long, ok, rfl, ?_, ?_, ⟨fun hh => absurd He.out hh, fun _ => ⟨Hcd.out, fun hh => ?_, fun hh => ?_⟩⟩, Hc1.out.trans ((below_drewN Hb4.out _).mono Hc1.out.size)⟩
    · simp [results, Try.results40, go_sem]
    · exact Hp4.out.1.below (below_drewN (Below.refl _ _) _) (Nat.le_refl _)
    · exact Hp4.out.2.1.below (below_drewN (Below.refl _ _) _) (Nat.le_refl _)
    · obtain ⟨a1, a2, a3⟩ := Hok.out hh
      obtain ⟨b1, b2, b3, b4⟩ := a1.two a2
      exact ⟨b1, b2, b3, b4, a3⟩
    · rw [Hno.out hh]; exact ⟨rfl, rfl⟩
  · have hq : (validL L != 0) = true := by simpa using he
    have He := hid_ he
    generalize hx : validL L = x at *
    go_enter Try.func40, Try.ntmps40
    clear he
    go_wp2_with (go_at_call 44; (with_reducible refine HV.out.mono ?_); rintro e w2 ⟨rfl, hb2⟩)
    have hs0 : SlAt w2 none (.slice none 0 0) [] := ⟨none, 0, rfl, IntsAt.nil _ _ _ (by omega), fun b off h _ => by cases h⟩
    refine bodyPost_ret (v := .tuple #[.slice none 0 0, .slice none 0 0, .bool false, .int .i64 x]) ?_ rfl ⟨_, _, [], [], false, rfl, hs0, hs0, ⟨fun _ => ⟨rfl, rfl, rfl⟩, fun hh => absurd (hx.symm.trans hh) He.out⟩, Hc1.out.trans (hb2.mono Hc1.out.size)⟩
    simp [results, Try.results40, go_sem]
def IsCodeIs (L : Lx) (b : Bool) : Prop := (validL L ≠ 0 → b = false) ∧ (validL L = 0 → CodeIs L b)
theorem IsCodeIs.uniq {L : Lx} {b b' : Bool} (h : IsCodeIs L b) (h' : IsCodeIs L b') : b = b' := by
  by_cases he : validL L = 0
  · exact (h.2 he).uniq (h'.2 he)
  · rw [h.1 he, h'.1 he]
set_option maxRecDepth 100000 in
set_option maxHeartbeats 4000000 in
theorem taIsCode_calls (v : Value) (L : Lx) (w : World) (h : LexAt w v L) :
    Calls Try.prog 19 #[v] w fun e w' => ∃ b, e = .returned (.tuple #[.bool b, .int .i64 (validL L)]) ∧ IsCodeIs L b ∧ Below w.heap.size w w' := by
  have HP := hid_ h
  obtain ⟨a1, n1, c1, a2, n2, c2, rfl, h1, h2⟩ := h
  obtain ⟨w1, hw1⟩ : ∃ w1, w.alloc (.cells #[.slice a1 n1 c1, .slice a2 n2 c2] 25) = w1 := ⟨_, rfl⟩
  have cb : Below w.heap.size w w1 := by rw [← hw1]; exact below_alloc _ _
  have q0 : w1.cell? ⟨w.heap.size, 0, none⟩ = some (.slice a1 n1 c1) := by rw [← hw1]; exact cells_alloc _ _ _ 0
  have q1 : w1.cell? ⟨w.heap.size, 1, none⟩ = some (.slice a2 n2 c2) := by rw [← hw1]; exact cells_alloc _ _ _ 1
  have HP1 := hid_ (HP.out.below cb (Nat.le_refl _)); have Hc1 := hid_ cb
  have HT := hid_ (taTwo_calls _ L w1 HP1.out)
  clear h1 h2 HP HP1 cb
  by_cases he : validL L = 0
  · have He := hid_ he
    rw [he] at HT ⊢
    clear he
    go_enter Try.func19, Try.ntmps19
    go_wp2_with (go_at_call 40; (with_reducible refine HT.out.mono ?_); rintro e w3 ⟨x1, x2, s, l, ok, rfl, hp1, hp2, htw, hb3⟩; obtain ⟨f1, k1, d1, rfl⟩ := SlAt.lit hp1; obtain ⟨f2, k2, d2, rfl⟩ := SlAt.lit hp2; have Htw := hid_ htw; have Hb3 := hid_ hb3; clear htw hb3 hp1 hp2)
    go_ret2
    exact ⟨!ok, rfl, ⟨fun hh => absurd He.out hh, fun _ => (Htw.out.2 He.out).1⟩, Hc1.out.trans (Hb3.out.mono Hc1.out.size)⟩
  · have He := hid_ he
    have hq : (validL L == 0) = false := by simpa using he
    generalize hx : validL L = x at *
    clear he
    go_enter Try.func19, Try.ntmps19
    go_wp2_with (go_at_call 40; (with_reducible refine HT.out.mono ?_); rintro e w3 ⟨x1, x2, s, l, ok, rfl, hp1, hp2, htw, hb3⟩; obtain ⟨f1, k1, d1, rfl⟩ := SlAt.lit hp1; obtain ⟨f2, k2, d2, rfl⟩ := SlAt.lit hp2; have Hb3 := hid_ hb3; clear htw hb3 hp1 hp2)
    go_ret2
    exact ⟨false, rfl, ⟨fun _ => rfl, fun hh => absurd (hx.symm.trans hh) He.out⟩, Hc1.out.trans (Hb3.out.mono Hc1.out.size)⟩
def twoE (L : Lx) (a b : List Int) : Int := if validL L = 0 then (if 200 < a.length ∨ 200 < b.length then 3 else if (itemsB L a && itemsB L b) = true then (if a = b ∨ wordsL L a ≠ wordsL L b then 7 else 0) else 4) else validL L
end Go.Proofs.Ytgpenbajhndhiaa
