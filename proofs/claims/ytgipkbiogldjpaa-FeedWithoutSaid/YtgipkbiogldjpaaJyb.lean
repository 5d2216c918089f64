import Derived.Test.YtgipkbiogldjpaaJya
import Derived.Test.YtgipkbiogldjpaaMi
import Derived.Test.YtgipkbiogldjpaaMbd
import Derived.Test.YtgipkbiogldjpaaJn
namespace Go.Proofs.Ytgipkbiogldjpaa
open Go.RowKit Go.Proofs.Kv

/-! ### copied, Without, Copy -/
theorem WordT.wordX {w : World} {B : Nat} {u : Value} {l : List Int} (h : WordT w B u l) : WordX true w B none u l := by
  obtain ⟨a, n, c, rfl, hi, hd⟩ := h
  refine ⟨⟨a, n, c, rfl, hi, fun b off hn ha => ⟨(hd b off hn ha).1, by simp⟩⟩, fun _ a' n' c' b off e hn ha => ?_⟩
  injection e with q1 q2 q3
  subst q1; subst q2
  exact (hd b off hn ha).2
theorem WordT.setLo {w : World} {B b0 i : Nat} {u x : Value} {l : List Int} (h : WordT w B u l) (hb : b0 < B) : WordT (w.setCell ⟨b0, i, none⟩ x) B u l := by
  obtain ⟨a, n, c, rfl, hi, hd⟩ := h
  have hk : Kept (fun b => b = b0) w (w.setCell ⟨b0, i, none⟩ x) := (Kept.refl (fun b => b = b0) w).setCell (p := ⟨b0, i, none⟩) (fun _ => rfl) x
  have hne : ∀ b off, 0 < n → a = some ⟨b, off, none⟩ → ¬ b = b0 := fun b off h1 h2 e => by have := (hd b off h1 h2).1; omega
  exact ⟨a, n, c, rfl, hi.kept hk hne, fun b off h1 h2 => ⟨(hd b off h1 h2).1, by
    obtain ⟨_, cur, e⟩ := hd b off h1 h2
    exact ⟨cur, (hk.block b (Go.lt_of_block e) (hne b off h1 h2)).trans e⟩⟩⟩
theorem IntsNew2.wordX {w : World} {B n c : Nat} {a : Option Addr} {l : List Int} (h : IntsNew2 B w a n c l) : WordX false w B none (.slice a n c) l := by
  refine ⟨⟨a, n, c, rfl, h.at_, fun b off hn ha => ⟨?_, by simp⟩⟩, fun h => by cases h⟩
  obtain ⟨b', off', e, hb⟩ := h.hi hn
  rw [ha] at e; injection e with e; injection e with e _; omega
theorem RuleNew.ruleX {w : World} {B : Nat} {v : Value} {R : Rl} (h : RuleNew B w v R) : ∃ y : Rc, v = .agg #[.int .i64 y.1, y.2.1, y.2.2.1, y.2.2.2] ∧ RuleX false w B none y R := by
  obtain ⟨a1, n1, c1, a2, n2, c2, a3, n3, c3, rfl, h1, h2, h3⟩ := h
  exact ⟨⟨R.f, .slice a1 n1 c1, .slice a2 n2 c2, .slice a3 n3 c3⟩, rfl, rfl, h1.wordX, h2.wordX, h3.wordX⟩
set_option maxRecDepth 100000 in
set_option maxHeartbeats 4000000 in
theorem copied_calls (v : Value) (R : Rl) (w : World) (hr : RuleAt w v R) (l1 : R.o.length ≤ 1000) (l2 : R.le.length ≤ 1000) (l3 : R.ri.length ≤ 1000) :
    Calls Try.prog 59 #[v] w fun e w' => ∃ y : Rc, e = .returned (.agg #[.int .i64 y.1, y.2.1, y.2.2.1, y.2.2.2]) ∧ RuleX true w' w.heap.size none y R ∧ Below w.heap.size w w' := by
  obtain ⟨a1, n1, c1, a2, n2, c2, a3, n3, c3, rfl, h1, h2, h3⟩ := hr
  obtain ⟨w1, hw1⟩ : ∃ w1, (w.alloc (.cells #[.int .i64 R.f, .slice a1 n1 c1, .slice a2 n2 c2, .slice a3 n3 c3] 53)).alloc (.cells #[.int .i64 0, .slice none 0 0, .slice none 0 0, .slice none 0 0] 53) = w1 := ⟨_, rfl⟩
  have hb1 : Below w.heap.size w w1 := by rw [← hw1]; exact (below_alloc _ _).alloc (by simp) _
  have hz : w1.heap.size = w.heap.size + 2 := by rw [← hw1]; simp
  have HQ : Hid (∀ W, Below (w.heap.size + 1) w1 W → W.cell? ⟨w.heap.size, 0, none⟩ = some (.int .i64 R.f) ∧ W.cell? ⟨w.heap.size, 1, none⟩ = some (.slice a1 n1 c1) ∧ W.cell? ⟨w.heap.size, 2, none⟩ = some (.slice a2 n2 c2) ∧ W.cell? ⟨w.heap.size, 3, none⟩ = some (.slice a3 n3 c3) ∧ Below (w.heap.size + 1) w1 W) := hid_ (fun W hW => by
    have A : ∀ i, W.cell? ⟨w.heap.size, i, none⟩ = w1.cell? ⟨w.heap.size, i, none⟩ := fun i => hW.cell (by show w.heap.size < _; omega)
    refine ⟨?_, ?_, ?_, ?_, hW⟩ <;> (rw [A, ← hw1]; simp))
  have HRB : Hid (∀ W, Below w1.heap.size w1 W → (W.cell? ⟨w.heap.size + 1, 0, none⟩ = some (.int .i64 0) ∧ W.cell? ⟨w.heap.size + 1, 1, none⟩ = some (.slice none 0 0) ∧ W.cell? ⟨w.heap.size + 1, 2, none⟩ = some (.slice none 0 0) ∧ W.cell? ⟨w.heap.size + 1, 3, none⟩ = some (.slice none 0 0)) ∧ (W.frozen? ⟨w.heap.size + 1, 0, none⟩ = false ∧ W.frozen? ⟨w.heap.size + 1, 1, none⟩ = false ∧ W.frozen? ⟨w.heap.size + 1, 2, none⟩ = false ∧ W.frozen? ⟨w.heap.size + 1, 3, none⟩ = false)) := hid_ (fun W hW => by
    have C : ∀ i, W.cell? ⟨w.heap.size + 1, i, none⟩ = w1.cell? ⟨w.heap.size + 1, i, none⟩ := fun i => hW.cell (by show w.heap.size + 1 < _; omega)
    have F : ∀ i, W.frozen? ⟨w.heap.size + 1, i, none⟩ = w1.frozen? ⟨w.heap.size + 1, i, none⟩ := fun i => hW.frozen (by show w.heap.size + 1 < _; omega)
    have f0 : ∀ i, w1.frozen? ⟨w.heap.size + 1, i, none⟩ = false := fun i => by rw [← hw1]; exact World.frozen?_alloc_at _ _ _ _ (by simp)
    refine ⟨⟨?_, ?_, ?_, ?_⟩, (F _).trans (f0 _), (F _).trans (f0 _), (F _).trans (f0 _), (F _).trans (f0 _)⟩ <;> (rw [C, ← hw1]; simp [World.cell?_alloc_at]))
  have Hb1 := hid_ hb1
  have HZ := hid_ hz
  have HC1 := hid_ (fun W (hW : Below w1.heap.size w1 W) => clone_calls a1 n1 c1 R.o W ((h1.below Hb1.out (Nat.le_refl _)).below hW (Nat.le_refl _)) (by have := h1.len; omega))
  have HC2 := hid_ (fun W (hW : Below w1.heap.size w1 W) => clone_calls a2 n2 c2 R.le W ((h2.below Hb1.out (Nat.le_refl _)).below hW (Nat.le_refl _)) (by have := h2.len; omega))
  have HC3 := hid_ (fun W (hW : Below w1.heap.size w1 W) => clone_calls a3 n3 c3 R.ri W ((h3.below Hb1.out (Nat.le_refl _)).below hW (Nat.le_refl _)) (by have := h3.len; omega))
  have hs1 : w.heap.size + 2 ≤ w1.heap.size := by rw [HZ.out]; exact Nat.le_refl _
  clear h1 h2 h3 hb1 hz l1 l2 l3
  have hbb : Below (w.heap.size + 1) w1 w1 := Below.refl _ _
  obtain ⟨q0, q1, q2, q3, -⟩ := HQ.out w1 hbb
  have hbd : Below (w.heap.size + 1) w1 w1.drew := Below.drew (Below.refl _ _)
  have hbd1 : Below w1.heap.size w1 w1.drew := Below.drew (Below.refl _ _)
  go_enter Try.func59, Try.ntmps59
  go_wp2_with fail
  clear hw1
  go_region_held3 (fun W => W.cell? ⟨w.heap.size, 0, none⟩ = some (.int .i64 R.f) ∧ W.cell? ⟨w.heap.size, 1, none⟩ = some (.slice a1 n1 c1) ∧ W.cell? ⟨w.heap.size, 2, none⟩ = some (.slice a2 n2 c2) ∧ W.cell? ⟨w.heap.size, 3, none⟩ = some (.slice a3 n3 c3) ∧ Below (w.heap.size + 1) w1 W) (first | exact HQ.out _ (by assumption) | exact HQ.out _ (Below.setCell (Below.setCell (Below.setCell (Below.setCell (by assumption) (by simp) _) (by simp) _) (by simp) _) (by simp) _) | fail)
    (first
      | (go_at_call 71; with_reducible refine (HC1.out _ hbd1).mono ?_; rintro e w5 ⟨v5, rfl, hm5⟩; have hb5 : Below (w.heap.size + 1) w1 w5 := hbd.trans (hm5.bel.mono (by simp; omega)); have hb51 : Below w1.heap.size w1 w5 := hbd1.trans (hm5.bel.mono hbd1.size); obtain ⟨a5, d5, rfl, -⟩ := hm5.at_; have HM5 := hid_ hm5; clear hm5)
      | (go_at_call 71; with_reducible refine (HC2.out _ hb51).mono ?_; rintro e w6 ⟨v6, rfl, hm6⟩; have hb6 : Below (w.heap.size + 1) w1 w6 := hb5.trans (hm6.bel.mono (by have := hb5.size; omega)); have hb61 : Below w1.heap.size w1 w6 := hb51.trans (hm6.bel.mono hb51.size); obtain ⟨a6, d6, rfl, -⟩ := hm6.at_; have HM6 := hid_ hm6; clear hm6)
      | (go_at_call 71; with_reducible refine (HC3.out _ hb61).mono ?_; rintro e w7 ⟨v7, rfl, hm7⟩; have hb7 : Below (w.heap.size + 1) w1 w7 := hb6.trans (hm7.bel.mono (by have := hb6.size; omega)); have hb71 : Below w1.heap.size w1 w7 := hb61.trans (hm7.bel.mono hb61.size); obtain ⟨a7, d7, rfl, -⟩ := hm7.at_; have HM7 := hid_ hm7; clear hm7; obtain ⟨⟨r0, r1, r2, r3⟩, f0, f1, f2, f3⟩ := HRB.out w7 hb71))
  go_wp2_with fail
  refine bodyPost_ret (v := .agg #[.int .i64 R.f, .slice a5 R.o.length d5, .slice a6 R.le.length d6, .slice a7 R.ri.length d7]) ?_ rfl ⟨⟨R.f, .slice a5 R.o.length d5, .slice a6 R.le.length d6, .slice a7 R.ri.length d7⟩, rfl, ?_, ?_⟩
  · simp [results, Try.results59, go_sem, r0, r1, r2, r3]
  · have t5 : WordT w7 w1.heap.size (.slice a5 R.o.length d5) R.o := (((Made.wordT HM5.out).next HM6.out.bel).next HM7.out.bel).mono (Nat.le_refl _)
    have t6 : WordT w7 w1.heap.size (.slice a6 R.le.length d6) R.le := ((Made.wordT HM6.out).next HM7.out.bel).mono hb51.size
    have t7 : WordT w7 w1.heap.size (.slice a7 R.ri.length d7) R.ri := (Made.wordT HM7.out).mono hb61.size
    have lo : w.heap.size + 1 < w1.heap.size := by omega
    exact ⟨rfl, ((((t5.setLo lo).setLo lo).setLo lo).setLo lo).wordX.base (by omega), ((((t6.setLo lo).setLo lo).setLo lo).setLo lo).wordX.base (by omega), ((((t7.setLo lo).setLo lo).setLo lo).setLo lo).wordX.base (by omega)⟩
  · (repeat (with_reducible refine Below.setCell ?_ (by simp) _)); exact Hb1.out.trans (hb71.mono Hb1.out.size)
/-! ### Without: the program -/
theorem erase_snoc {L : List Rl} {i : Nat} (hi : i < L.length) (k : Nat) : (L.take (i + 1)).eraseIdx k = if i = k then (L.take i).eraseIdx k else (L.take i).eraseIdx k ++ [L.getD i R0] := by
  rw [take_snoc L R0 i hi]
  have hl : (L.take i).length = i := by rw [List.length_take]; omega
  by_cases e : i = k
  · subst e
    rw [if_pos rfl, List.eraseIdx_append_of_length_le (by omega), hl, Nat.sub_self, List.eraseIdx_of_length_le (l := L.take i) (by omega)]
    simp
  · rw [if_neg e]
    by_cases hk : k < i
    · rw [List.eraseIdx_append_of_lt_length (by omega)]
    · rw [List.eraseIdx_append_of_length_le (by omega), hl, List.eraseIdx_of_length_le (l := L.take i) (by omega), List.eraseIdx_of_length_le (l := [L.getD i R0]) (by simp; omega)]
def errWithout (L : List Rl) (x : Int) : Int := if validS L = 0 then (if isRl L.length x then 0 else 4) else validS L
def resWithout (L : List Rl) (x : Int) : List Rl := if validS L = 0 then (if isRl L.length x then L.eraseIdx x.toNat else []) else []
theorem setN_len {l : List Int} (h : setN l = true) : l.length ≤ 7 := by
  have key : ∀ k, k < l.length → -1 + (k : Int) ≤ l.getD k 0 := by
    intro k
    induction k with
    | zero => exact fun hk => by have := (setN_range h _ (getD_mem hk)).1; simpa using this
    | succ k ih =>
      intro hk
      have h1 := ih (by omega)
      simp only [setN, IsSet, List.all_eq_true, List.mem_range] at h
      have := h (k + 1) hk
      simp only [setBad, Nat.add_sub_cancel] at this
      generalize l.getD k 0 = y at *
      generalize l.getD (k + 1) 0 = z at *
      simp at this
      omega
  rcases Nat.lt_or_ge 7 l.length with h7 | h7
  · have h1 := key 7 h7
    have h2 := (setN_range h _ (getD_mem h7)).2
    omega
  · exact h7
theorem valid_lens {R : Rl} (h : validR R = 0) : R.o.length ≤ 1000 ∧ R.le.length ≤ 1000 ∧ R.ri.length ≤ 1000 := by
  obtain ⟨_, _, h1, _, h2, h3⟩ := validR_ok h
  have := setN_len h2
  have := setN_len h3
  omega
set_option maxRecDepth 100000 in
set_option maxHeartbeats 4000000 in
theorem feWithout_calls (A : Option Addr) (N C : Nat) (L : List Rl) (x : Int) (w : World) (h : RulesAt w A N C L) :
    Calls Try.prog 26 #[.slice A N C, .int .i64 x] w fun e w' => ∃ v, e = .returned (.tuple #[v, .int .i64 (errWithout L x)]) ∧ OwnRs true w' w.heap.size v (resWithout L x) ∧ Below w.heap.size w w' := by
  have HLn := hid_ h.len
  have HV := hid_ (feValidate_calls A N C L w h)
  have HI := hid_ (fun W => isRule_calls A N C x W)
  by_cases hv : validS L = 0
  · rw [hv] at HV
    cases hq : isRl L.length x with
    | false =>
      have He : Hid (errWithout L x = 4) := hid_ (by rw [errWithout, if_pos hv, hq]; rfl)
      have Hr : Hid (resWithout L x = []) := hid_ (by rw [resWithout, if_pos hv, hq]; rfl)
      rw [h.len] at hq
      rw [hq] at HI
      clear h hv hq
      go_enter Try.func26, Try.ntmps26
      go_wp2_with (first
        | (go_at_call 47; (with_reducible refine HV.out.mono ?_); rintro e w3 ⟨rfl, hb3⟩)
        | (go_at_call 58; (with_reducible refine (HI.out w3).mono ?_); rintro e w4 ⟨rfl, rfl⟩))
      go_ret2
      exact ⟨_, by rw [He.out]; rfl, by rw [Hr.out]; exact OwnRs.nil _ _ _, hb3⟩
    | true =>
      obtain ⟨kk, rfl, hkk⟩ : ∃ kk : Nat, x = kk ∧ kk < L.length := by
        simp only [isRl, Bool.and_eq_true, decide_eq_true_eq] at hq
        exact ⟨x.toNat, by omega, by omega⟩
      have He : Hid (errWithout L (kk : Int) = 0) := hid_ (by rw [errWithout, if_pos hv, hq]; rfl)
      have Hr : Hid (resWithout L (kk : Int) = (L.take N).eraseIdx kk) := hid_ (by rw [resWithout, if_pos hv, hq, ← h.len, List.take_length]; rfl)
      rw [h.len] at hq
      rw [hq] at HI
      have HS := hid_ (fun i (hi : i < L.length) => erase_snoc hi kk)
      have hN6 : N ≤ 6 := by rw [← h.len]; exact (validS_ok hv).1
      have HVR := hid_ (validS_ok hv).2
      have HH := hid_ h
      rw [He.out, Hr.out]
      clear h hv hq He Hr hkk
      go_enter Try.func26, Try.ntmps26
      go_wp2_with (first
        | (go_at_call 47; (with_reducible refine HV.out.mono ?_); rintro e w3 ⟨rfl, hb3⟩)
        | (go_at_call 58; (with_reducible refine (HI.out w3).mono ?_); rintro e w4 ⟨rfl, rfl⟩))
      go_loopw [7, 21] (fun v i wr => ∃ k : Nat, k ≤ N ∧ i = .int .i64 k ∧ OwnRs true wr w.heap.size v ((L.take k).eraseIdx kk) ∧ Below w.heap.size w wr) (fun _ i _ => N - (intOf i).toNat)
      case atStart => exact ⟨0, Nat.zero_le _, rfl, by simpa using OwnRs.nil _ _ _, hb3⟩
      case round =>
        obtain ⟨k, hk, rfl, hO, hb⟩ := hrel
        by_cases hlt : k < N
        · obtain ⟨b, off, a1, n1, c1, a2, n2, c2, a3, n3, c3, rfl, hbl, j0, j1, j2, j3, hr⟩ := (HH.out.below hb (Nat.le_refl _)).at_ hlt
          have hs := HS.out k (by rw [HLn.out]; exact hlt)
          have hvr := HVR.out (L.getD k R0) (by rw [show L.getD k R0 = L[k]'(by rw [HLn.out]; exact hlt) by simp [List.getD, List.getElem?_eq_getElem (show k < L.length by rw [HLn.out]; exact hlt)]]; exact List.getElem_mem _)
          obtain ⟨l1, l2, l3⟩ := valid_lens hvr
          have hlen : ((L.take k).eraseIdx kk).length ≤ k := by
            have := List.length_eraseIdx_le (L.take k) kk
            rw [List.length_take] at this; omega
          generalize L.getD k R0 = R at *
          generalize (L.take k).eraseIdx kk = M at *
          by_cases e : k = kk
          · subst e
            rw [if_pos rfl] at hs
            have Hs := hid_ hs
            have HO := hid_ hO; have Hb := hid_ hb
            clear hs hO hb hr
            go_wp2
            go_roundw
            case rel => exact ⟨k + 1, by omega, by go_num, by rw [Hs.out]; exact HO.out.next (below_alloc _ _), Hb.out.trans ((below_alloc _ _).mono Hb.out.size)⟩
            case measure => simp [intOf]; omega
          · rw [if_neg e] at hs
            have hne : ¬ (k : Int) = (kk : Int) := by omega
            have Hs := hid_ hs
            have HCo := hid_ (copied_calls _ R (wr.alloc (.cells #[.int .i64 R.f, .slice a1 n1 c1, .slice a2 n2 c2, .slice a3 n3 c3] 53)) (hr.below (below_alloc _ _) (Nat.le_refl _)) l1 l2 l3)
            have HO := hid_ hO; have Hb := hid_ hb
            clear hs hO hb hr l1 l2 l3
            go_wp2_with (first
              | (go_at_call 59; (with_reducible refine HCo.out.mono ?_); rintro e w6 ⟨y, rfl, hy, hb6⟩; have hb06 : Below wr.heap.size wr w6 := (below_alloc _ _).trans (hb6.mono (by simp)); have Hy := hid_ hy; clear hy)
              | (at_builtin; refine wpList_append_rule rfl (.tmp 29) (.tmp 32) rfl w.heap.size _ M rfl HO.out R w6 hb06 y (Hy.out.base (by simp)) _ rfl (by omega) Hb.out.size ?_; rintro v7 w7 hO7 hb7))
            go_roundw
            case rel => exact ⟨k + 1, by omega, by go_num, by rw [Hs.out]; exact hO7, Hb.out.trans hb7⟩
            case measure => simp [intOf]; omega
        · obtain rfl : N = k := by omega
          go_wp2
          go_ret2
          exact ⟨_, rfl, hO, hb⟩
  · have He : Hid (errWithout L x = validS L) := hid_ (by rw [errWithout, if_neg hv])
    have Hr : Hid (resWithout L x = []) := hid_ (by rw [resWithout, if_neg hv])
    have hq : (validS L != 0) = true := by simpa using hv
    rw [He.out, Hr.out]
    generalize validS L = z at *
    clear h hv He Hr
    go_enter Try.func26, Try.ntmps26
    go_wp2_with (go_at_call 47; (with_reducible refine HV.out.mono ?_); rintro e w3 ⟨rfl, hb3⟩)
    go_ret2
    exact ⟨_, rfl, OwnRs.nil _ _ _, hb3⟩
/-! ### Copy of a system -/
set_option maxRecDepth 100000 in
set_option maxHeartbeats 4000000 in
theorem r3Copy_calls (A : Option Addr) (N C : Nat) (L : List Rl) (w : World) (h : RulesAt w A N C L) (hN : N ≤ 1000) (hL : ∀ R ∈ L, R.o.length ≤ 1000 ∧ R.le.length ≤ 1000 ∧ R.ri.length ≤ 1000) :
    Calls Try.prog 25 #[.slice A N C] w fun e w' => ∃ v, e = .returned v ∧ OwnRs false w' w.heap.size v L ∧ Below w.heap.size w w' := by
  have HLn := hid_ h.len
  have HS := hid_ (fun i (hi : i < L.length) => take_snoc L R0 i hi)
  have HT : Hid (L.take N = L) := hid_ (by rw [← h.len, List.take_length])
  have HH := hid_ h
  have HLe := hid_ hL
  clear h hL
  go_enter Try.func25, Try.ntmps25
  go_wp2
  go_loopw [3, 4] (fun v i wr => ∃ k : Nat, k ≤ N ∧ i = .int .i64 k ∧ OwnRs false wr w.heap.size v (L.take k) ∧ Below w.heap.size w wr) (fun _ i _ => N - (intOf i).toNat)
  case atStart => exact ⟨0, Nat.zero_le _, rfl, by simpa using OwnRs.nil _ _ _, Below.refl _ _⟩
  case round =>
    obtain ⟨k, hk, rfl, hO, hb⟩ := hrel
    by_cases hlt : k < N
    · obtain ⟨b, off, a1, n1, c1, a2, n2, c2, a3, n3, c3, rfl, hbl, j0, j1, j2, j3, hr⟩ := (HH.out.below hb (Nat.le_refl _)).at_ hlt
      have hs := HS.out k (by rw [HLn.out]; exact hlt)
      obtain ⟨l1, l2, l3⟩ := HLe.out (L.getD k R0) (by rw [show L.getD k R0 = L[k]'(by rw [HLn.out]; exact hlt) by simp [List.getD, List.getElem?_eq_getElem (show k < L.length by rw [HLn.out]; exact hlt)]]; exact List.getElem_mem _)
      have hlen : (L.take k).length ≤ k := by rw [List.length_take]; omega
      generalize L.getD k R0 = R at *
      generalize L.take k = M at *
      have Hs := hid_ hs
      have HCo : Hid (Calls Try.prog 57 #[.agg #[.int .i64 R.f, .slice a1 n1 c1, .slice a2 n2 c2, .slice a3 n3 c3]] wr fun e w' => ∃ y : Rc, e = .returned (.agg #[.int .i64 y.1, y.2.1, y.2.2.1, y.2.2.2]) ∧ RuleX false w' wr.heap.size none y R ∧ Below wr.heap.size wr w') := hid_ ((copy_calls _ R wr hr l1 l2 l3).mono fun e w' hp => by
        obtain ⟨v, he, hn, hb⟩ := hp
        obtain ⟨y, hy, hx⟩ := RuleNew.ruleX hn
        exact ⟨y, by rw [he, hy], hx, hb⟩)
      have HO := hid_ hO; have Hb := hid_ hb
      clear hs hO hb hr l1 l2 l3
      go_wp2_with (first
        | (go_at_call 57; (with_reducible refine HCo.out.mono ?_); rintro e w6 ⟨y, rfl, hy, hb6⟩; have Hy := hid_ hy; clear hy)
        | (at_builtin; refine wpList_append_rule rfl (.tmp 11) (.tmp 17) rfl w.heap.size _ M rfl HO.out R w6 hb6 y Hy.out _ rfl (by omega) Hb.out.size ?_; rintro v7 w7 hO7 hb7))
      go_roundw
      case rel => exact ⟨k + 1, by omega, by go_num, by rw [Hs.out]; exact hO7, Hb.out.trans hb7⟩
      case measure => simp [intOf]; omega
    · obtain rfl : N = k := by omega
      rw [HT.out] at hO
      go_wp2
      go_ret
      exact ⟨_, rfl, hO, hb⟩
end Go.Proofs.Ytgipkbiogldjpaa
