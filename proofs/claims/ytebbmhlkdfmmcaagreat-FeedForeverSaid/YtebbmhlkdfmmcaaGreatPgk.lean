import Derived.Test.YtebbmhlkdfmmcaaGreatPf
import Derived.Deep.RegionHeld3
namespace Go.Proofs.YtebbmhlkdfmmcaaGreat
open Go.RowKit Go.Proofs.Kv

/-! ### places -/
def plP (R : Rl) (l : List Int) : List Int := pl (plB R.f R.le R.ri l) (l.length + 1)
set_option maxRecDepth 100000 in
set_option maxHeartbeats 2000000 in
theorem placesP_calls (v : Value) (R : Rl) (a : Option Addr) (n c : Nat) (l : List Int) (w : World) (hr : RuleAt w v R) (h : IntsAt w a n c l) (hn : n ≤ 100) (hsl : setN R.le = true) (hsr : setN R.ri = true) (hw : isWord l = true) :
    Calls Tryz.prog 98 #[v, .slice a n c] w fun e w' => ∃ v', e = .returned v' ∧ Made 3 w w' v' (plP R l) := by
  obtain ⟨i0, hi0, hz0, hz1, hz2⟩ := info_parts Tryz.infoInt
  have Hr := hid_ hr
  have Hpl : Hid (plP R l = pl (plB R.f R.le R.ri l) (n + 1)) := hid_ (by rw [plP, h.len])
  obtain ⟨a1, n1, c1, a2, n2, c2, a3, n3, c3, rfl, h1, h2, h3⟩ := hr
  clear h1 h2 h3
  obtain ⟨w1, hw1⟩ : ∃ w1, w.alloc (.cells #[.int .i64 R.f, .slice a1 n1 c1, .slice a2 n2 c2, .slice a3 n3 c3] 44) = w1 := ⟨_, rfl⟩
  have Hb1 : Hid (Below w.heap.size w w1) := hid_ (by rw [← hw1]; exact below_alloc _ _)
  have Hso := hid_ (sidesOf_calls _ R w1 (Hr.out.below Hb1.out (Nat.le_refl _)) hsl hsr)
  obtain ⟨k0, k1, k2, k3⟩ := box4 hw1 (Below.refl _ _)
  go_enter Tryz.func98, Tryz.ntmps98
  go_wp2_with (go_at_call 105; refine (Hso.out).mono ?_; rintro e w' ⟨rfl, hbs⟩)
  obtain ⟨w3, hw3⟩ : ∃ w3, w'.alloc (.cells #[.func (.func 114) #[.agg (nbV R.le)] #[], .func (.func 114) #[.agg (nbV R.ri)] #[]] 136) = w3 := ⟨_, rfl⟩
  have hb13 : Below w1.heap.size w1 w3 := by rw [← hw3]; exact hbs.trans ((below_alloc w' _).mono hbs.size)
  have hz3 : w'.heap.size < w3.heap.size := by rw [← hw3]; simp
  have s0 : w3.cell? ⟨w'.heap.size, 0, none⟩ = some (.func (.func 114) #[.agg (nbV R.le)] #[]) := by rw [← hw3, cells_alloc]; rfl
  have s1 : w3.cell? ⟨w'.heap.size, 1, none⟩ = some (.func (.func 114) #[.agg (nbV R.ri)] #[]) := by rw [← hw3, cells_alloc]; rfl
  have Hw1 := hid_ hw1
  have Hk : Hid (∀ W, Below w3.heap.size w3 W → W.cell? ⟨w.heap.size, 0, none⟩ = some (.int .i64 R.f) ∧ W.cell? ⟨w'.heap.size, 0, none⟩ = some (.func (.func 114) #[.agg (nbV R.le)] #[]) ∧ W.cell? ⟨w'.heap.size, 1, none⟩ = some (.func (.func 114) #[.agg (nbV R.ri)] #[])) := hid_ (fun W hW => by
    refine ⟨(box4 Hw1.out (hb13.trans (hW.mono hb13.size))).1, (hW.cell (p := ⟨w'.heap.size, 0, none⟩) hz3).trans s0, (hW.cell (p := ⟨w'.heap.size, 1, none⟩) hz3).trans s1⟩)
  have Hb3 : Hid (Below w.heap.size w w3) := hid_ (Hb1.out.trans (hb13.mono Hb1.out.size))
  have HI := hid_ (fun W (hW : Below w3.heap.size w3 W) => h.below (Hb3.out.trans (hW.mono Hb3.out.size)) (Nat.le_refl _))
  try rw [hw3]
  clear hw1 hw3 hbs hb13 hz3 s0 s1 k0 k1 k2 k3 h
  have hwn : IntKind.i64.wrap ((n : Int) + 1) = (n : Int) + 1 := IntWalk.i64_in _ (by omega)
  go_loopw [5, 13] (fun v i wr => ∃ k : Nat, k ≤ n + 1 ∧ i = .int .i64 k ∧ wr.ownsRow w3.heap.size 3 1 v (pl (plB R.f R.le R.ri l) k).length ((pl (plB R.f R.le R.ri l) k).map (Value.int .i64)) ∧ Below w3.heap.size w3 wr) (fun _ i _ => n + 1 - (intOf i).toNat)
  case atStart => exact ⟨0, by omega, rfl, World.ownsRow_nil _ _ _ _, Below.refl _ _⟩
  case round =>
    obtain ⟨k, hk, rfl, hown, hbel⟩ := hrel
    have hsz := hbel.size
    by_cases hlt : k < n + 1
    · have Hc := hid_ (isPlaceP_calls R.f R.le R.ri a n c l k wr (HI.out wr hbel) hw hn)
      obtain ⟨k0, s0, s1⟩ := Hk.out wr hbel
      have hle := pl_le (plB R.f R.le R.ri l) k
      have hs1 : (pl (plB R.f R.le R.ri l) k).length + 1 ≤ 1000000 := by omega
      have hkn : (k : Int) < (n : Int) + 1 := by omega
      cases hh : plB R.f R.le R.ri l k with
      | true =>
        rw [hh] at Hc
        have Hn := hid_ (pl_hit hh)
        clear hh
        go_wp2_with (first
          | (go_at_call 106; refine (Hc.out).mono ?_; rintro e w' ⟨rfl, hbc⟩)
          | (at_builtin; refine wpList_append_ints _ rfl (.tmp 22) (.tmp 24) _ rfl w3.heap.size 3 i0 Tryz.underlying23 hi0 hz0 hz1 hz2 _ _ _ rfl ((own_grown hown hbc).alloc _) _ _ _ _ rfl (IntsAt.one _ _ _) hs1 (le_alloc (Nat.le_trans hsz hbc.size)) ?_; intro v' w2 hown1 hg1 hat1))
        go_roundw
        case rel => exact ⟨k + 1, by omega, by go_num, by rw [Hn.out]; simpa using hown1, below_app (hbel.trans (hbc.mono hsz)) (Nat.le_trans hsz hbc.size) (own_grown hown hbc) hg1⟩
        case measure => simp [intOf]; omega
      | false =>
        rw [hh] at Hc
        have Hn := hid_ (pl_miss hh)
        clear hh
        go_wp2_with (go_at_call 106; refine (Hc.out).mono ?_; rintro e w' ⟨rfl, hbc⟩)
        go_roundw
        case rel => exact ⟨k + 1, by omega, by go_num, by rw [Hn.out]; exact own_grown hown hbc, hbel.trans (hbc.mono hsz)⟩
        case measure => simp [intOf]; omega
    · obtain rfl : k = n + 1 := by omega
      have hgt : ¬ ((n + 1 : Nat) : Int) < (n : Int) + 1 := by omega
      go_wp2
      go_ret
      exact ⟨_, rfl, by rw [Hpl.out]; exact own_base hown Hb3.out.size, Hb3.out.trans (hbel.mono Hb3.out.size)⟩
end Go.Proofs.YtebbmhlkdfmmcaaGreat
namespace Go.Proofs.YtebbmhlkdfmmcaaGreat
open Go.RowKit Go.Proofs.Kv

/-! ### what is valid -/
def err2 (R : Rl) (l : List Int) : Int := if validR R = 0 then validW l else validR R
theorem validR_ok {R : Rl} (h : validR R = 0) : -1 ≤ R.f ∧ R.f ≤ 5 ∧ R.o.length ≤ 2 ∧ isWord R.o = true ∧ setN R.le = true ∧ setN R.ri = true := by
  unfold validR at h
  cases h1 : Within R.f (-1) 5 with
  | false => rw [h1] at h; simp at h
  | true =>
    by_cases h2 : 2 < R.o.length
    · rw [h1] at h; simp [h2] at h
    · cases h3 : isWord R.o with
      | false => rw [h1, h3] at h; simp [h2] at h
      | true =>
        cases h4 : setN R.le with
        | false => rw [h1, h3, h4] at h; simp [h2] at h
        | true =>
          cases h5 : setN R.ri with
          | false => rw [h1, h3, h4, h5] at h; simp [h2] at h
          | true => simp [Within] at h1; exact ⟨h1.1, h1.2, by omega, rfl, rfl, rfl⟩
theorem validW_ok {l : List Int} (h : validW l = 0) : l.length ≤ 8 ∧ isWord l = true := by
  unfold validW at h
  by_cases h1 : 8 < l.length
  · rw [if_pos h1] at h; cases h
  · rw [if_neg h1] at h
    cases h2 : isWord l with
    | false => rw [h2] at h; simp at h
    | true => exact ⟨by omega, rfl⟩
theorem err2_ok {R : Rl} {l : List Int} (h : err2 R l = 0) : validR R = 0 ∧ validW l = 0 := by
  unfold err2 at h
  by_cases h1 : validR R = 0
  · rw [if_pos h1] at h; exact ⟨h1, h⟩
  · rw [if_neg h1] at h; exact absurd h h1
theorem orL2 (a b : Int) : orL [a, b] = if a = 0 then b else a := by
  simp only [orL]
  by_cases ha : a = 0 <;> by_cases hb : b = 0 <;> simp [ha, hb]
/-- numbers that were just laid down -/
theorem IntsAt.lit (w : World) (l : List Int) (cs : Array Value) (n : Nat) (T : TypeId) (hcs : cs = (l.map (Value.int .i64)).toArray) (hn : l.length = n) (hs : n ≤ 1000) : IntsAt (w.alloc (.cells cs T)) (some ⟨w.heap.size, 0, none⟩) n n l :=
  ⟨hn, Nat.le_refl _, by omega, fun i hi => ⟨w.heap.size, 0, rfl, by simp, by
    rw [cells_alloc, hcs, Nat.zero_add]
    simp [List.getD, show i < l.length by omega]⟩⟩
theorem or2_calls (a b : Int) (w : World) (T : TypeId) :
    Calls Tryz.prog 97 #[.slice (some ⟨w.heap.size, 0, none⟩) 2 2] (w.alloc (.cells #[.int .i64 a, .int .i64 b] T)) fun e w' => e = .returned (.int .i64 (if a = 0 then b else a)) ∧ w.alloc (.cells #[.int .i64 a, .int .i64 b] T) = w' := by
  have := or_calls _ 2 2 [a, b] _ (IntsAt.lit w [a, b] _ 2 T rfl rfl (by omega))
  rwa [orL2] at this
theorem plP_ok {R : Rl} {l : List Int} : PutOk R (plP R l) l := by
  refine ⟨?_, fun p hp => ?_⟩
  · refine List.Pairwise.filter _ ?_
    rw [List.pairwise_map]
    exact List.pairwise_lt_range.imp (fun h => by omega)
  · obtain ⟨h0, h1, h2⟩ := mem_pl.1 hp
    refine ⟨h0, ?_⟩
    unfold tkN
    split
    · omega
    · rename_i hne
      unfold plB at h2
      rw [if_neg (by omega), if_neg (by omega), if_neg hne] at h2
      simp only [Bool.and_eq_true, beq_iff_eq] at h2
      have h3 := h2.1.1
      unfold atL at h3
      split at h3
      · rename_i hw
        simp [Within] at hw
        omega
      · omega
theorem one_ok {R : Rl} {l : List Int} {p : Int} (h : plB R.f R.le R.ri l p = true) : PutOk R [p] l := by
  have h0 : 0 ≤ p ∧ p ≤ l.length := by
    unfold plB at h
    by_cases h1 : p < 0
    · rw [if_pos h1] at h; cases h
    · by_cases h2 : (l.length : Int) < p
      · rw [if_neg h1, if_pos h2] at h; cases h
      · omega
  have hm : p ∈ plP R l := mem_pl.2 ⟨h0.1, by omega, h⟩
  exact ⟨by simp, fun q hq => by rw [List.mem_singleton] at hq; subst hq; exact plP_ok.2 _ hm⟩

/-! ### Places -/
def resPlaces (R : Rl) (l : List Int) : List Int := if err2 R l = 0 then plP R l else []
set_option maxRecDepth 100000 in
theorem ruPlaces_calls (v : Value) (R : Rl) (a : Option Addr) (n c : Nat) (l : List Int) (w : World) (hr : RuleAt w v R) (h : IntsAt w a n c l) :
    Calls Tryz.prog 81 #[v, .slice a n c] w fun e w' => ∃ v', e = .returned (.tuple #[v', .int .i64 (err2 R l)]) ∧ Made 3 w w' v' (resPlaces R l) := by
  have Hr := hid_ hr
  obtain ⟨a1, n1, c1, a2, n2, c2, a3, n3, c3, rfl, h1, h2, h3⟩ := hr
  clear h1 h2 h3
  obtain ⟨w1, hw1⟩ : ∃ w1, w.alloc (.cells #[.int .i64 R.f, .slice a1 n1 c1, .slice a2 n2 c2, .slice a3 n3 c3] 44) = w1 := ⟨_, rfl⟩
  have Hb1 : Hid (Below w.heap.size w w1) := hid_ (by rw [← hw1]; exact below_alloc _ _)
  obtain ⟨k0, k1, k2, k3⟩ := box4 hw1 (Below.refl _ _)
  have HR1 := hid_ (Hr.out.below Hb1.out (Nat.le_refl _))
  have HI1 := hid_ (h.below Hb1.out (Nat.le_refl _))
  have Hv1 := hid_ (ruValidate_calls _ R w1 HR1.out)
  have Hv2 := hid_ (fun w2 (hb : Below w1.heap.size w1 w2) => ruValidateWord_calls a n c l w2 (HI1.out.below hb (Nat.le_refl _)))
  have Hor := hid_ (show ∀ (w : World) (T : TypeId), Calls Tryz.prog 97 #[.slice (some ⟨w.heap.size, 0, none⟩) 2 2] (w.alloc (.cells #[.int .i64 (validR R), .int .i64 (validW l)] T)) fun e w' => e = .returned (.int .i64 (err2 R l)) ∧ w.alloc (.cells #[.int .i64 (validR R), .int .i64 (validW l)] T) = w' from fun w T => or2_calls _ _ w T)
  have Hok := hid_ (@err2_ok R l)
  have HW1 := hid_ hw1
  by_cases he : err2 R l = 0
  · have Hf : Hid (resPlaces R l = plP R l) := hid_ (if_pos he)
    obtain ⟨e1, e2⟩ := Hok.out he
    obtain ⟨g1, g2, g3, g4, g5, g6⟩ := validR_ok e1
    obtain ⟨g7, g8⟩ := validW_ok e2
    have Hpl := hid_ (fun W (hW : Below w1.heap.size w1 W) => placesP_calls _ R a n c l W (HR1.out.below hW (Nat.le_refl _)) (HI1.out.below hW (Nat.le_refl _)) (by have := h.len; omega) g5 g6 g8)
    rw [he] at Hor ⊢
    clear g1 g2 g3 g4 g5 g6 g7 g8 e1 e2 he
    generalize validR R = x1 at *
    generalize validW l = x2 at *
    go_enter Tryz.func81, Tryz.ntmps81
    go_wp2_with (first
      | (go_at_call 66; refine Hv1.out.mono ?_; rintro e w4 ⟨rfl, hb2⟩)
      | (go_at_call 56; refine (Hv2.out _ hb2).mono ?_; rintro e w' ⟨rfl, rfl⟩)
      | (go_at_call 97; refine (Hor.out _ _).mono ?_; rintro e w5 ⟨rfl, hw5⟩; have hb3 : Below w1.heap.size w1 w5 := (by rw [← hw5]; exact hb2.trans ((below_alloc w4 _).mono hb2.size)); clear hw5; obtain ⟨q0, q1, q2, q3⟩ := box4 HW1.out hb3))
    refine (Hpl.out _ hb3).mono ?_
    rintro e w6 ⟨v4, rfl, hm⟩
    go_wp2
    go_ret2
    exact ⟨_, rfl, by rw [Hf.out]; exact hm.after (Hb1.out.trans (hb3.mono Hb1.out.size))⟩
  · have Hf : Hid (resPlaces R l = []) := hid_ (if_neg he)
    generalize validR R = x1 at *
    generalize validW l = x2 at *
    generalize err2 R l = er at *
    have hq : (er != 0) = true := by simpa using he
    clear he
    go_enter Tryz.func81, Tryz.ntmps81
    go_wp2_with (first
      | (go_at_call 66; refine Hv1.out.mono ?_; rintro e w4 ⟨rfl, hb2⟩)
      | (go_at_call 56; refine (Hv2.out _ hb2).mono ?_; rintro e w' ⟨rfl, rfl⟩)
      | (go_at_call 97; refine (Hor.out _ _).mono ?_; rintro e w5 ⟨rfl, hw5⟩; have hb3 : Below w1.heap.size w1 w5 := (by rw [← hw5]; exact hb2.trans ((below_alloc w4 _).mono hb2.size)); clear hw5; obtain ⟨q0, q1, q2, q3⟩ := box4 HW1.out hb3))
    go_ret2
    exact ⟨_, rfl, by rw [Hf.out]; exact Made.none_ _ (Hb1.out.trans (hb3.mono Hb1.out.size))⟩
end Go.Proofs.YtebbmhlkdfmmcaaGreat
namespace Go.Proofs.YtebbmhlkdfmmcaaGreat
open Go.RowKit Go.Proofs.Kv

/-! ### apply, Apply -/
def apE (R : Rl) (l : List Int) (p : Int) : Int := if plB R.f R.le R.ri l p then putErr R [p] l else 6
def apV (R : Rl) (l : List Int) (p : Int) : List Int := if plB R.f R.le R.ri l p then putRes R [p] l else []
set_option maxRecDepth 100000 in
set_option maxHeartbeats 1000000 in
theorem applyP_calls (v : Value) (R : Rl) (a : Option Addr) (n c : Nat) (l : List Int) (p : Int) (w : World) (hr : RuleAt w v R) (h : IntsAt w a n c l) (hn : n ≤ 100) (ho : R.o.length ≤ 2) (hsl : setN R.le = true) (hsr : setN R.ri = true) (hw : isWord l = true) :
    Calls Tryz.prog 99 #[v, .slice a n c, .int .i64 p] w fun e w' => ∃ v', e = .returned (.tuple #[v', .int .i64 (apE R l p)]) ∧ Made 3 w w' v' (apV R l p) := by
  have Hr := hid_ hr
  obtain ⟨a1, n1, c1, a2, n2, c2, a3, n3, c3, rfl, h1, h2, h3⟩ := hr
  clear h1 h2 h3
  obtain ⟨w1, hw1⟩ : ∃ w1, w.alloc (.cells #[.int .i64 R.f, .slice a1 n1 c1, .slice a2 n2 c2, .slice a3 n3 c3] 44) = w1 := ⟨_, rfl⟩
  have Hb1 : Hid (Below w.heap.size w w1) := hid_ (by rw [← hw1]; exact below_alloc _ _)
  obtain ⟨k0, k1, k2, k3⟩ := box4 hw1 (Below.refl _ _)
  have HR1 := hid_ (Hr.out.below Hb1.out (Nat.le_refl _))
  have HI1 := hid_ (h.below Hb1.out (Nat.le_refl _))
  have HW1 := hid_ hw1
  have e0 := cell_regrown k0
  have e1 := cell_regrown k1
  have e2 := cell_regrown k2
  have e3 := cell_regrown k3
  have Hso := hid_ (fun d os => sidesOf_calls _ R _ (HR1.out.grown d os) hsl hsr)
  have Hip := hid_ (fun d os => isPlaceP_calls R.f R.le R.ri a n c l p _ (HI1.out.grown d os) hw hn)
  have Hone := hid_ (@one_ok R l p)
  have HaE : Hid (apE R l p = if plB R.f R.le R.ri l p then putErr R [p] l else 6) := hid_ rfl
  have HaV : Hid (apV R l p = if plB R.f R.le R.ri l p then putRes R [p] l else []) := hid_ rfl
  generalize hp : plB R.f R.le R.ri l p = b at Hip HaE HaV
  have Hp := hid_ hp; clear hp
  cases b with
  | false =>
    clear k0 k1 k2 k3
    go_enter Tryz.func99, Tryz.ntmps99
    go_wp2
    refine wp_region_quiet_below (by kernel_rfl) (by kernel_rfl) ?_
    repeat (first
      | go_big_quiet_skip
      | (go_big_quiet_want; go_big_quiet_op; first | go_big_quiet_on | go_big_quiet_call ((first
        | (go_at_call 105; exact Calls.regrown_of (Hso.out _ _))
        | (go_at_call 106; exact Calls.regrown_of (Hip.out _ _)))))) 
    refine wpQuiet_nil ?_
    rintro wq ⟨pq, hpq⟩
    have Hq := hid_ (Hb1.out.trans ((below_wq hpq).mono Hb1.out.size))
    go_wp2
    go_ret2
    exact ⟨_, by rw [HaE.out] <;> rfl, by rw [HaV.out]; exact Made.none_ _ Hq.out⟩
  | true =>
    have Hput := hid_ (fun W (hW : Below w1.heap.size w1 W) (A : Option Addr) (hA : IntsAt W A 1 1 [p]) => put_calls _ R a n c l A 1 1 [p] W (HR1.out.below hW (Nat.le_refl _)) (HI1.out.below hW (Nat.le_refl _)) hA (by omega) (by omega) ho (Hone.out Hp.out))
    clear k0 k1 k2 k3
    go_enter Tryz.func99, Tryz.ntmps99
    go_wp2
    refine wp_region_quiet_below (by kernel_rfl) (by kernel_rfl) ?_
    repeat (first
      | go_big_quiet_skip
      | (go_big_quiet_want; go_big_quiet_op; first | go_big_quiet_on | go_big_quiet_call ((first
        | (go_at_call 105; exact Calls.regrown_of (Hso.out _ _))
        | (go_at_call 106; exact Calls.regrown_of (Hip.out _ _)))))) 
    refine wpQuiet_nil ?_
    rintro wq ⟨pq, hpq⟩
    have hbq := below_wq hpq; clear hpq
    obtain ⟨q0, q1, q2, q3⟩ := box4 HW1.out hbq
    clear e0 e1 e2 e3
    go_wp2_with fail
    obtain ⟨w3, hw3⟩ : ∃ w3, wq.alloc (.cells #[.int .i64 p] 3) = w3 := ⟨_, rfl⟩
    have hI3 : IntsAt w3 (some ⟨wq.heap.size, 0, none⟩) 1 1 [p] := by rw [← hw3]; exact IntsAt.one _ _ _
    have hb3 : Below w1.heap.size w1 w3 := by rw [← hw3]; exact hbq.trans ((below_alloc wq _).mono hbq.size)
    rw [hw3]
    refine (Hput.out w3 hb3 _ hI3).mono ?_
    rintro e w6 ⟨v4, rfl, hm⟩
    clear q0 q1 q2 q3 hw3
    go_wp2
    go_ret2
    exact ⟨_, by rw [HaE.out] <;> rfl, by rw [HaV.out]; exact hm.after (Hb1.out.trans (hb3.mono Hb1.out.size))⟩
def errApply (R : Rl) (l : List Int) (p : Int) : Int := if err2 R l = 0 then apE R l p else err2 R l
def resApply (R : Rl) (l : List Int) (p : Int) : List Int := if err2 R l = 0 then apV R l p else []
set_option maxRecDepth 100000 in
theorem ruApply_calls (v : Value) (R : Rl) (a : Option Addr) (n c : Nat) (l : List Int) (p : Int) (w : World) (hr : RuleAt w v R) (h : IntsAt w a n c l) :
    Calls Tryz.prog 82 #[v, .slice a n c, .int .i64 p] w fun e w' => ∃ v', e = .returned (.tuple #[v', .int .i64 (errApply R l p)]) ∧ Made 3 w w' v' (resApply R l p) := by
  have Hr := hid_ hr
  obtain ⟨a1, n1, c1, a2, n2, c2, a3, n3, c3, rfl, h1, h2, h3⟩ := hr
  clear h1 h2 h3
  obtain ⟨w1, hw1⟩ : ∃ w1, w.alloc (.cells #[.int .i64 R.f, .slice a1 n1 c1, .slice a2 n2 c2, .slice a3 n3 c3] 44) = w1 := ⟨_, rfl⟩
  have Hb1 : Hid (Below w.heap.size w w1) := hid_ (by rw [← hw1]; exact below_alloc _ _)
  obtain ⟨k0, k1, k2, k3⟩ := box4 hw1 (Below.refl _ _)
  have HR1 := hid_ (Hr.out.below Hb1.out (Nat.le_refl _))
  have HI1 := hid_ (h.below Hb1.out (Nat.le_refl _))
  have HW1 := hid_ hw1
  have Hv1 := hid_ (ruValidate_calls _ R w1 HR1.out)
  have Hv2 := hid_ (fun w2 (hb : Below w1.heap.size w1 w2) => ruValidateWord_calls a n c l w2 (HI1.out.below hb (Nat.le_refl _)))
  have Hor := hid_ (show ∀ (w : World) (T : TypeId), Calls Tryz.prog 97 #[.slice (some ⟨w.heap.size, 0, none⟩) 2 2] (w.alloc (.cells #[.int .i64 (validR R), .int .i64 (validW l)] T)) fun e w' => e = .returned (.int .i64 (err2 R l)) ∧ w.alloc (.cells #[.int .i64 (validR R), .int .i64 (validW l)] T) = w' from fun w T => or2_calls _ _ w T)
  have Hok := hid_ (@err2_ok R l)
  by_cases he : err2 R l = 0
  · obtain ⟨e1, e2⟩ := Hok.out he
    obtain ⟨g1, g2, g3, g4, g5, g6⟩ := validR_ok e1
    obtain ⟨g7, g8⟩ := validW_ok e2
    have hn8 : n ≤ 8 := by rw [← h.len]; exact g7
    have Hf : Hid (resApply R l p = apV R l p) := hid_ (if_pos he)
    have HE : Hid (errApply R l p = apE R l p) := hid_ (if_pos he)
    have Hap := hid_ (fun W (hW : Below w1.heap.size w1 W) => applyP_calls _ R a n c l p W (HR1.out.below hW (Nat.le_refl _)) (HI1.out.below hW (Nat.le_refl _)) (by omega) g3 g5 g6 g8)
    rw [he] at Hor
    try rw [he]
    clear g1 g2 g3 g4 g5 g6 g7 g8 e1 e2 he
    generalize validR R = x1 at *
    generalize validW l = x2 at *
    go_enter Tryz.func82, Tryz.ntmps82
    go_wp2_with (first
      | (go_at_call 66; refine Hv1.out.mono ?_; rintro e w4 ⟨rfl, hb2⟩)
      | (go_at_call 56; refine (Hv2.out _ hb2).mono ?_; rintro e w' ⟨rfl, rfl⟩)
      | (go_at_call 97; refine (Hor.out _ _).mono ?_; rintro e w5 ⟨rfl, hw5⟩; have hb3 : Below w1.heap.size w1 w5 := (by rw [← hw5]; exact hb2.trans ((below_alloc w4 _).mono hb2.size)); clear hw5; obtain ⟨q0, q1, q2, q3⟩ := box4 HW1.out hb3))
    refine (Hap.out _ hb3).mono ?_
    rintro e w6 ⟨v4, rfl, hm⟩
    go_wp2
    go_ret2
    exact ⟨_, by rw [HE.out] <;> rfl, by rw [Hf.out]; exact hm.after (Hb1.out.trans (hb3.mono Hb1.out.size))⟩
  ·
    have Hf : Hid (resApply R l p = []) := hid_ (if_neg he)
    have HE : Hid (errApply R l p = err2 R l) := hid_ (if_neg he)
    generalize validR R = x1 at *
    generalize validW l = x2 at *
    generalize err2 R l = er at *
    have hq : (er != 0) = true := by simpa using he
    clear he
    go_enter Tryz.func82, Tryz.ntmps82
    go_wp2_with (first
      | (go_at_call 66; refine Hv1.out.mono ?_; rintro e w4 ⟨rfl, hb2⟩)
      | (go_at_call 56; refine (Hv2.out _ hb2).mono ?_; rintro e w' ⟨rfl, rfl⟩)
      | (go_at_call 97; refine (Hor.out _ _).mono ?_; rintro e w5 ⟨rfl, hw5⟩; have hb3 : Below w1.heap.size w1 w5 := (by rw [← hw5]; exact hb2.trans ((below_alloc w4 _).mono hb2.size)); clear hw5; obtain ⟨q0, q1, q2, q3⟩ := box4 HW1.out hb3))
    go_ret2
    exact ⟨_, by rw [HE.out] <;> rfl, by rw [Hf.out]; exact Made.none_ _ (Hb1.out.trans (hb3.mono Hb1.out.size))⟩

/-! ### First -/
def firP (R : Rl) (l : List Int) : Option Int := (plP R l).head?
def errFirst (R : Rl) (l : List Int) : Int := if err2 R l = 0 then (if plP R l = [] then 0 else putErr R [(plP R l).headD 0] l) else err2 R l
def resFirst (R : Rl) (l : List Int) : List Int := if err2 R l = 0 then (if plP R l = [] then [] else putRes R [(plP R l).headD 0] l) else []
def isFirst (R : Rl) (l : List Int) : Bool := decide (err2 R l = 0) && !(decide (plP R l = [])) && decide (putErr R [(plP R l).headD 0] l = 0)
end Go.Proofs.YtebbmhlkdfmmcaaGreat
namespace Go.Proofs.YtebbmhlkdfmmcaaGreat
open Go.RowKit Go.Proofs.Kv

/-! ### AtAll -/
def errAll (R : Rl) (l : List Int) : Int := if err2 R l = 0 then putErr R (plP R l) l else err2 R l
def resAll (R : Rl) (l : List Int) : List Int := if err2 R l = 0 then putRes R (plP R l) l else []
theorem plP_len {R : Rl} {l : List Int} : (plP R l).length ≤ l.length + 1 := pl_le _ _
end Go.Proofs.YtebbmhlkdfmmcaaGreat
namespace Go.Proofs.YtebbmhlkdfmmcaaGreat
open Go.RowKit Go.Proofs.Kv

/-! ### Along -/
def alongF (R : Rl) : Nat → List Int → Nat → Option (List Int)
  | 0, v, _ => some v
  | k + 1, v, i => if plB R.f R.le R.ri v i then (if 8 < (putL v i (i + tkN R) R.o).length then none else alongF R k (putL v i (i + tkN R) R.o) (i + R.o.length + 1 - tkN R)) else alongF R k v (i + 1)
def alongP (R : Rl) (l : List Int) : Option (List Int) := alongF R (l.length + 1) l 0
def errAlong (R : Rl) (l : List Int) : Int := if err2 R l = 0 then (if (alongP R l).isSome then 0 else 3) else err2 R l
def resAlong (R : Rl) (l : List Int) : List Int := if err2 R l = 0 then (alongP R l).getD [] else []
theorem isWord_put {v o : List Int} {i j : Nat} (hv : isWord v = true) (ho : isWord o = true) : isWord (putL v i j o) = true := by
  rw [isWord, List.all_eq_true] at *
  intro x hx
  simp only [putL, List.mem_append] at hx
  rcases hx with (hx | hx) | hx
  · exact hv x (List.mem_of_mem_take hx)
  · exact ho x hx
  · exact hv x (List.mem_of_mem_drop hx)
theorem pl_fit {R : Rl} {l : List Int} {i : Nat} (h : plB R.f R.le R.ri l i = true) : i + tkN R ≤ l.length := by
  have := (one_ok h).2 (i : Int) (by simp)
  simpa using this.2
end Go.Proofs.YtebbmhlkdfmmcaaGreat
