import Derived.Test.YtoopgmoopmbfnaaPf
import Derived.Deep.RegionHeld3
namespace Go.Proofs.Ytoopgmoopmbfnaa
open Go.RowKit Go.Proofs.Kv

/-! ### places -/
def plP (R : Rl) (l : List Int) : List Int := pl (plB R.f R.le R.ri l) (l.length + 1)
set_option maxRecDepth 100000 in
set_option maxHeartbeats 2000000 in
theorem placesP_calls (v : Value) (R : Rl) (a : Option Addr) (n c : Nat) (l : List Int) (w : World) (hr : RuleAt w v R) (h : IntsAt w a n c l) (hn : n ≤ 100) (hsl : setN R.le = true) (hsr : setN R.ri = true) (hw : isWord l = true) :
    Calls Try.prog 89 #[v, .slice a n c] w fun e w' => ∃ v', e = .returned v' ∧ Made 3 w w' v' (plP R l) := by
  obtain ⟨i0, hi0, hz0, hz1, hz2⟩ := info_parts Try.infoInt
  have Hr := hid_ hr
  have Hpl : Hid (plP R l = pl (plB R.f R.le R.ri l) (n + 1)) := hid_ (by rw [plP, h.len])
  obtain ⟨a1, n1, c1, a2, n2, c2, a3, n3, c3, rfl, h1, h2, h3⟩ := hr
  clear h1 h2 h3
  obtain ⟨w1, hw1⟩ : ∃ w1, w.alloc (.cells #[.int .i64 R.f, .slice a1 n1 c1, .slice a2 n2 c2, .slice a3 n3 c3] 49) = w1 := ⟨_, rfl⟩
  have Hb1 : Hid (Below w.heap.size w w1) := hid_ (by rw [← hw1]; exact below_alloc _ _)
  have Hso := hid_ (sidesOf_calls _ R w1 (Hr.out.below Hb1.out (Nat.le_refl _)) hsl hsr)
  obtain ⟨k0, k1, k2, k3⟩ := box4 hw1 (Below.refl _ _)
  go_enter Try.func89, Try.ntmps89
  go_wp2_with (go_at_call 114; refine (Hso.out).mono ?_; rintro e w' ⟨rfl, hbs⟩)
  obtain ⟨w3, hw3⟩ : ∃ w3, w'.alloc (.cells #[.func (.func 139) #[.agg (nbV R.le)] #[], .func (.func 139) #[.agg (nbV R.ri)] #[]] 117) = w3 := ⟨_, rfl⟩
  have hb13 : Below w1.heap.size w1 w3 := by rw [← hw3]; exact hbs.trans ((below_alloc w' _).mono hbs.size)
  have hz3 : w'.heap.size < w3.heap.size := by rw [← hw3]; simp
  have s0 : w3.cell? ⟨w'.heap.size, 0, none⟩ = some (.func (.func 139) #[.agg (nbV R.le)] #[]) := by rw [← hw3, cells_alloc]; rfl
  have s1 : w3.cell? ⟨w'.heap.size, 1, none⟩ = some (.func (.func 139) #[.agg (nbV R.ri)] #[]) := by rw [← hw3, cells_alloc]; rfl
  have Hw1 := hid_ hw1
  have Hk : Hid (∀ W, Below w3.heap.size w3 W → W.cell? ⟨w.heap.size, 0, none⟩ = some (.int .i64 R.f) ∧ W.cell? ⟨w'.heap.size, 0, none⟩ = some (.func (.func 139) #[.agg (nbV R.le)] #[]) ∧ W.cell? ⟨w'.heap.size, 1, none⟩ = some (.func (.func 139) #[.agg (nbV R.ri)] #[])) := hid_ (fun W hW => by
    refine ⟨(box4 Hw1.out (hb13.trans (hW.mono hb13.size))).1, (hW.cell (p := ⟨w'.heap.size, 0, none⟩) hz3).trans s0, (hW.cell (p := ⟨w'.heap.size, 1, none⟩) hz3).trans s1⟩)
  have Hb3 : Hid (Below w.heap.size w w3) := hid_ (Hb1.out.trans (hb13.mono Hb1.out.size))
  have HI := hid_ (fun W (hW : Below w3.heap.size w3 W) => h.below (Hb3.out.trans (hW.mono Hb3.out.size)) (Nat.le_refl _))
  try rw [hw3]
  clear hw1 hw3 hbs hb13 hz3 s0 s1 k0 k1 k2 k3 h
  have hwn : IntKind.i64.wrap ((n : Int) + 1) = (n : Int) + 1 := IntWalk.i64_in _ (by omega)
  go_loopw [5, 13] (fun v i wr => ∃ k : Nat, k ≤ n + 1 ∧ i = .int .i64 k ∧ wr.ownsRow w3.heap.size 3 1 v (pl (plB R.f R.le R.ri l) k).length ((pl (plB R.f R.le R.ri l) k).map (Value.int .i64)) ∧ Below w3.heap.size w3 wr) (fun _ i _ => n + 1 - (intOf i).toNat)
  case atStart => exact ⟨0, by omega, rfl, World.ownsRow_nil _ _ _ _, Below.refl _ _⟩
  case round =>
    obtain ⟨k, hk, rfl, hown, hbel⟩ := hrel
    have hsz := hbel.size
    by_cases hlt : k < n + 1
    · have Hc := hid_ (isPlaceP_calls R.f R.le R.ri a n c l k wr (HI.out wr hbel) hw hn)
      obtain ⟨k0, s0, s1⟩ := Hk.out wr hbel
      have hle := pl_le (plB R.f R.le R.ri l) k
      have hs1 : (pl (plB R.f R.le R.ri l) k).length + 1 ≤ 1000000 := by omega
      have hkn : (k : Int) < (n : Int) + 1 := by omega
      cases hh : plB R.f R.le R.ri l k with
      | true =>
        rw [hh] at Hc
        have Hn := hid_ (pl_hit hh)
        clear hh
        go_wp2_with (first
          | (go_at_call 115; refine (Hc.out).mono ?_; rintro e w' ⟨rfl, hbc⟩)
          | (at_builtin; refine wpList_append_ints _ rfl (.tmp 22) (.tmp 24) _ rfl w3.heap.size 3 i0 Try.underlying23 hi0 hz0 hz1 hz2 _ _ _ rfl ((own_grown hown hbc).alloc _) _ _ _ _ rfl (IntsAt.one _ _ _) hs1 (le_alloc (Nat.le_trans hsz hbc.size)) ?_; intro v' w2 hown1 hg1 hat1))
        go_roundw
        case rel => exact ⟨k + 1, by omega, by go_num, by rw [Hn.out]; simpa using hown1, below_app (hbel.trans (hbc.mono hsz)) (Nat.le_trans hsz hbc.size) (own_grown hown hbc) hg1⟩
        case measure => simp [intOf]; omega
      | false =>
        rw [hh] at Hc
        have Hn := hid_ (pl_miss hh)
        clear hh
        go_wp2_with (go_at_call 115; refine (Hc.out).mono ?_; rintro e w' ⟨rfl, hbc⟩)
        go_roundw
        case rel => exact ⟨k + 1, by omega, by go_num, by rw [Hn.out]; exact own_grown hown hbc, hbel.trans (hbc.mono hsz)⟩
        case measure => simp [intOf]; omega
    · obtain rfl : k = n + 1 := by omega
      have hgt : ¬ ((n + 1 : Nat) : Int) < (n : Int) + 1 := by omega
      go_wp2
      go_ret
      exact ⟨_, rfl, by rw [Hpl.out]; exact own_base hown Hb3.out.size, Hb3.out.trans (hbel.mono Hb3.out.size)⟩
end Go.Proofs.Ytoopgmoopmbfnaa
namespace Go.Proofs.Ytoopgmoopmbfnaa
open Go.RowKit Go.Proofs.Kv

/-! ### what is valid -/
def err2 (R : Rl) (l : List Int) : Int := if validR R = 0 then validW l else validR R
theorem validR_ok {R : Rl} (h : validR R = 0) : -1 ≤ R.f ∧ R.f ≤ 5 ∧ R.o.length ≤ 2 ∧ isWord R.o = true ∧ setN R.le = true ∧ setN R.ri = true := by
  unfold validR at h
  cases h1 : Within R.f (-1) 5 with
  | false => rw [h1] at h; simp at h
  | true =>
    by_cases h2 : 2 < R.o.length
    · rw [h1] at h; simp [h2] at h
    · cases h3 : isWord R.o with
      | false => rw [h1, h3] at h; simp [h2] at h
      | true =>
        cases h4 : setN R.le with
        | false => rw [h1, h3, h4] at h; simp [h2] at h
        | true =>
          cases h5 : setN R.ri with
          | false => rw [h1, h3, h4, h5] at h; simp [h2] at h
          | true => simp [Within] at h1; exact ⟨h1.1, h1.2, by omega, rfl, rfl, rfl⟩
theorem validW_ok {l : List Int} (h : validW l = 0) : l.length ≤ 8 ∧ isWord l = true := by
  unfold validW at h
  by_cases h1 : 8 < l.length
  · rw [if_pos h1] at h; cases h
  · rw [if_neg h1] at h
    cases h2 : isWord l with
    | false => rw [h2] at h; simp at h
    | true => exact ⟨by omega, rfl⟩
theorem err2_ok {R : Rl} {l : List Int} (h : err2 R l = 0) : validR R = 0 ∧ validW l = 0 := by
  unfold err2 at h
  by_cases h1 : validR R = 0
  · rw [if_pos h1] at h; exact ⟨h1, h⟩
  · rw [if_neg h1] at h; exact absurd h h1
theorem orL2 (a b : Int) : orL [a, b] = if a = 0 then b else a := by
  simp only [orL]
  by_cases ha : a = 0 <;> by_cases hb : b = 0 <;> simp [ha, hb]
/-- numbers that were just laid down -/
theorem IntsAt.lit (w : World) (l : List Int) (cs : Array Value) (n : Nat) (T : TypeId) (hcs : cs = (l.map (Value.int .i64)).toArray) (hn : l.length = n) (hs : n ≤ 1000) : IntsAt (w.alloc (.cells cs T)) (some ⟨w.heap.size, 0, none⟩) n n l :=
  ⟨hn, Nat.le_refl _, by omega, fun i hi => ⟨w.heap.size, 0, rfl, by simp, by
    rw [cells_alloc, hcs, Nat.zero_add]
    simp [List.getD, show i < l.length by omega]⟩⟩
theorem or2_calls (a b : Int) (w : World) (T : TypeId) :
    Calls Try.prog 88 #[.slice (some ⟨w.heap.size, 0, none⟩) 2 2] (w.alloc (.cells #[.int .i64 a, .int .i64 b] T)) fun e w' => e = .returned (.int .i64 (if a = 0 then b else a)) ∧ w.alloc (.cells #[.int .i64 a, .int .i64 b] T) = w' := by
  have := or_calls _ 2 2 [a, b] _ (IntsAt.lit w [a, b] _ 2 T rfl rfl (by omega))
  rwa [orL2] at this
theorem plP_ok {R : Rl} {l : List Int} : PutOk R (plP R l) l := by
  refine ⟨?_, fun p hp => ?_⟩
  · refine List.Pairwise.filter _ ?_
    rw [List.pairwise_map]
    exact List.pairwise_lt_range.imp (fun h => by omega)
  · obtain ⟨h0, h1, h2⟩ := mem_pl.1 hp
    refine ⟨h0, ?_⟩
    unfold tkN
    split
    · omega
    · rename_i hne
      unfold plB at h2
      rw [if_neg (by omega), if_neg (by omega), if_neg hne] at h2
      simp only [Bool.and_eq_true, beq_iff_eq] at h2
      have h3 := h2.1.1
      unfold atL at h3
      split at h3
      · rename_i hw
        simp [Within] at hw
        omega
      · omega
theorem one_ok {R : Rl} {l : List Int} {p : Int} (h : plB R.f R.le R.ri l p = true) : PutOk R [p] l := by
  have h0 : 0 ≤ p ∧ p ≤ l.length := by
    unfold plB at h
    by_cases h1 : p < 0
    · rw [if_pos h1] at h; cases h
    · by_cases h2 : (l.length : Int) < p
      · rw [if_neg h1, if_pos h2] at h; cases h
      · omega
  have hm : p ∈ plP R l := mem_pl.2 ⟨h0.1, by omega, h⟩
  exact ⟨by simp, fun q hq => by rw [List.mem_singleton] at hq; subst hq; exact plP_ok.2 _ hm⟩

/-! ### Places -/
def resPlaces (R : Rl) (l : List Int) : List Int := if err2 R l = 0 then plP R l else []
set_option maxRecDepth 100000 in
theorem ruPlaces_calls (v : Value) (R : Rl) (a : Option Addr) (n c : Nat) (l : List Int) (w : World) (hr : RuleAt w v R) (h : IntsAt w a n c l) :
    Calls Try.prog 42 #[v, .slice a n c] w fun e w' => ∃ v', e = .returned (.tuple #[v', .int .i64 (err2 R l)]) ∧ Made 3 w w' v' (resPlaces R l) := by
  have Hr := hid_ hr
  obtain ⟨a1, n1, c1, a2, n2, c2, a3, n3, c3, rfl, h1, h2, h3⟩ := hr
  clear h1 h2 h3
  obtain ⟨w1, hw1⟩ : ∃ w1, w.alloc (.cells #[.int .i64 R.f, .slice a1 n1 c1, .slice a2 n2 c2, .slice a3 n3 c3] 49) = w1 := ⟨_, rfl⟩
  have Hb1 : Hid (Below w.heap.size w w1) := hid_ (by rw [← hw1]; exact below_alloc _ _)
  obtain ⟨k0, k1, k2, k3⟩ := box4 hw1 (Below.refl _ _)
  have HR1 := hid_ (Hr.out.below Hb1.out (Nat.le_refl _))
  have HI1 := hid_ (h.below Hb1.out (Nat.le_refl _))
  have Hv1 := hid_ (ruValidate_calls _ R w1 HR1.out)
  have Hv2 := hid_ (fun w2 (hb : Below w1.heap.size w1 w2) => ruValidateWord_calls a n c l w2 (HI1.out.below hb (Nat.le_refl _)))
  have Hor := hid_ (show ∀ (w : World) (T : TypeId), Calls Try.prog 88 #[.slice (some ⟨w.heap.size, 0, none⟩) 2 2] (w.alloc (.cells #[.int .i64 (validR R), .int .i64 (validW l)] T)) fun e w' => e = .returned (.int .i64 (err2 R l)) ∧ w.alloc (.cells #[.int .i64 (validR R), .int .i64 (validW l)] T) = w' from fun w T => or2_calls _ _ w T)
  have Hok := hid_ (@err2_ok R l)
  have HW1 := hid_ hw1
  by_cases he : err2 R l = 0
  · have Hf : Hid (resPlaces R l = plP R l) := hid_ (if_pos he)
    obtain ⟨e1, e2⟩ := Hok.out he
    obtain ⟨g1, g2, g3, g4, g5, g6⟩ := validR_ok e1
    obtain ⟨g7, g8⟩ := validW_ok e2
    have Hpl := hid_ (fun W (hW : Below w1.heap.size w1 W) => placesP_calls _ R a n c l W (HR1.out.below hW (Nat.le_refl _)) (HI1.out.below hW (Nat.le_refl _)) (by have := h.len; omega) g5 g6 g8)
    rw [he] at Hor ⊢
    clear g1 g2 g3 g4 g5 g6 g7 g8 e1 e2 he
    generalize validR R = x1 at *
    generalize validW l = x2 at *
    go_enter Try.func42, Try.ntmps42
    go_wp2_with (first
      | (go_at_call 78; refine Hv1.out.mono ?_; rintro e w4 ⟨rfl, hb2⟩)
      | (go_at_call 86; refine (Hv2.out _ hb2).mono ?_; rintro e w' ⟨rfl, rfl⟩)
      | (go_at_call 88; refine (Hor.out _ _).mono ?_; rintro e w5 ⟨rfl, hw5⟩; have hb3 : Below w1.heap.size w1 w5 := (by rw [← hw5]; exact hb2.trans ((below_alloc w4 _).mono hb2.size)); clear hw5; obtain ⟨q0, q1, q2, q3⟩ := box4 HW1.out hb3))
    refine (Hpl.out _ hb3).mono ?_
    rintro e w6 ⟨v4, rfl, hm⟩
    go_wp2
    go_ret2
    exact ⟨_, rfl, by rw [Hf.out]; exact hm.after (Hb1.out.trans (hb3.mono Hb1.out.size))⟩
  · have Hf : Hid (resPlaces R l = []) := hid_ (if_neg he)
    generalize validR R = x1 at *
    generalize validW l = x2 at *
    generalize err2 R l = er at *
    have hq : (er != 0) = true := by simpa using he
    clear he
    go_enter Try.func42, Try.ntmps42
    go_wp2_with (first
      | (go_at_call 78; refine Hv1.out.mono ?_; rintro e w4 ⟨rfl, hb2⟩)
      | (go_at_call 86; refine (Hv2.out _ hb2).mono ?_; rintro e w' ⟨rfl, rfl⟩)
      | (go_at_call 88; refine (Hor.out _ _).mono ?_; rintro e w5 ⟨rfl, hw5⟩; have hb3 : Below w1.heap.size w1 w5 := (by rw [← hw5]; exact hb2.trans ((below_alloc w4 _).mono hb2.size)); clear hw5; obtain ⟨q0, q1, q2, q3⟩ := box4 HW1.out hb3))
    go_ret2
    exact ⟨_, rfl, by rw [Hf.out]; exact Made.none_ _ (Hb1.out.trans (hb3.mono Hb1.out.size))⟩
end Go.Proofs.Ytoopgmoopmbfnaa
namespace Go.Proofs.Ytoopgmoopmbfnaa
open Go.RowKit Go.Proofs.Kv

/-! ### apply, Apply -/
def apE (R : Rl) (l : List Int) (p : Int) : Int := if plB R.f R.le R.ri l p then putErr R [p] l else 6
def apV (R : Rl) (l : List Int) (p : Int) : List Int := if plB R.f R.le R.ri l p then putRes R [p] l else []
def errApply (R : Rl) (l : List Int) (p : Int) : Int := if err2 R l = 0 then apE R l p else err2 R l
def resApply (R : Rl) (l : List Int) (p : Int) : List Int := if err2 R l = 0 then apV R l p else []
/-! ### First -/
def firP (R : Rl) (l : List Int) : Option Int := (plP R l).head?
def errFirst (R : Rl) (l : List Int) : Int := if err2 R l = 0 then (if plP R l = [] then 0 else putErr R [(plP R l).headD 0] l) else err2 R l
def resFirst (R : Rl) (l : List Int) : List Int := if err2 R l = 0 then (if plP R l = [] then [] else putRes R [(plP R l).headD 0] l) else []
def isFirst (R : Rl) (l : List Int) : Bool := decide (err2 R l = 0) && !(decide (plP R l = [])) && decide (putErr R [(plP R l).headD 0] l = 0)
end Go.Proofs.Ytoopgmoopmbfnaa
namespace Go.Proofs.Ytoopgmoopmbfnaa
open Go.RowKit Go.Proofs.Kv

/-! ### AtAll -/
def errAll (R : Rl) (l : List Int) : Int := if err2 R l = 0 then putErr R (plP R l) l else err2 R l
def resAll (R : Rl) (l : List Int) : List Int := if err2 R l = 0 then putRes R (plP R l) l else []
theorem plP_len {R : Rl} {l : List Int} : (plP R l).length ≤ l.length + 1 := pl_le _ _
set_option maxRecDepth 100000 in
set_option maxHeartbeats 1000000 in
theorem ruAtAll_calls (v : Value) (R : Rl) (a : Option Addr) (n c : Nat) (l : List Int) (w : World) (hr : RuleAt w v R) (h : IntsAt w a n c l) :
    Calls Try.prog 76 #[v, .slice a n c] w fun e w' => ∃ v', e = .returned (.tuple #[v', .int .i64 (errAll R l)]) ∧ Made 3 w w' v' (resAll R l) := by
  have Hr := hid_ hr
  obtain ⟨a1, n1, c1, a2, n2, c2, a3, n3, c3, rfl, h1, h2, h3⟩ := hr
  clear h1 h2 h3
  obtain ⟨w1, hw1⟩ : ∃ w1, w.alloc (.cells #[.int .i64 R.f, .slice a1 n1 c1, .slice a2 n2 c2, .slice a3 n3 c3] 49) = w1 := ⟨_, rfl⟩
  have Hb1 : Hid (Below w.heap.size w w1) := hid_ (by rw [← hw1]; exact below_alloc _ _)
  obtain ⟨k0, k1, k2, k3⟩ := box4 hw1 (Below.refl _ _)
  have HR1 := hid_ (Hr.out.below Hb1.out (Nat.le_refl _))
  have HI1 := hid_ (h.below Hb1.out (Nat.le_refl _))
  have HW1 := hid_ hw1
  have Hv1 := hid_ (ruValidate_calls _ R w1 HR1.out)
  have Hv2 := hid_ (fun w2 (hb : Below w1.heap.size w1 w2) => ruValidateWord_calls a n c l w2 (HI1.out.below hb (Nat.le_refl _)))
  have Hor := hid_ (show ∀ (w : World) (T : TypeId), Calls Try.prog 88 #[.slice (some ⟨w.heap.size, 0, none⟩) 2 2] (w.alloc (.cells #[.int .i64 (validR R), .int .i64 (validW l)] T)) fun e w' => e = .returned (.int .i64 (err2 R l)) ∧ w.alloc (.cells #[.int .i64 (validR R), .int .i64 (validW l)] T) = w' from fun w T => or2_calls _ _ w T)
  have Hok := hid_ (@err2_ok R l)
  by_cases he : err2 R l = 0
  · obtain ⟨e1, e2⟩ := Hok.out he
    obtain ⟨g1, g2, g3, g4, g5, g6⟩ := validR_ok e1
    obtain ⟨g7, g8⟩ := validW_ok e2
    have hn8 : n ≤ 8 := by rw [← h.len]; exact g7
    have Hpl := hid_ (fun W (hW : Below w1.heap.size w1 W) => placesP_calls _ R a n c l W (HR1.out.below hW (Nat.le_refl _)) (HI1.out.below hW (Nat.le_refl _)) (by omega) g5 g6 g8)
    have Hput := hid_ (fun W (hW : Below w1.heap.size w1 W) (A : Option Addr) m k (hA : IntsAt W A m k (plP R l)) => put_calls _ R a n c l A m k (plP R l) W (HR1.out.below hW (Nat.le_refl _)) (HI1.out.below hW (Nat.le_refl _)) hA (by omega) (by have := plP_len (R := R) (l := l); have := hA.len; omega) g3 plP_ok)
    have Hf : Hid (resAll R l = putRes R (plP R l) l) := hid_ (if_pos he)
    have HE : Hid (errAll R l = putErr R (plP R l) l) := hid_ (if_pos he)
    rw [he] at Hor
    try rw [he]
    clear g1 g2 g3 g4 g5 g6 g7 g8 e1 e2 he
    generalize validR R = x1 at *
    generalize validW l = x2 at *
    go_enter Try.func76, Try.ntmps76
    go_wp2_with (first
      | (go_at_call 78; refine Hv1.out.mono ?_; rintro e w4 ⟨rfl, hb2⟩)
      | (go_at_call 86; refine (Hv2.out _ hb2).mono ?_; rintro e w' ⟨rfl, rfl⟩)
      | (go_at_call 88; refine (Hor.out _ _).mono ?_; rintro e w5 ⟨rfl, hw5⟩; have hb3 : Below w1.heap.size w1 w5 := (by rw [← hw5]; exact hb2.trans ((below_alloc w4 _).mono hb2.size)); clear hw5; obtain ⟨q0, q1, q2, q3⟩ := box4 HW1.out hb3))
    have hz5 : w.heap.size < w5.heap.size := World.block_lt_of_cell? w5 ⟨w.heap.size, 0, none⟩ q0
    have HS : Hid (∀ W, Below w5.heap.size w5 W → W.cell? ⟨w.heap.size, 0, none⟩ = some (.int .i64 R.f) ∧ W.cell? ⟨w.heap.size, 1, none⟩ = some (.slice a1 n1 c1) ∧ W.cell? ⟨w.heap.size, 2, none⟩ = some (.slice a2 n2 c2) ∧ W.cell? ⟨w.heap.size, 3, none⟩ = some (.slice a3 n3 c3) ∧ Below w5.heap.size w5 W) := hid_ (fun W hW =>
      ⟨(hW.cell hz5).trans q0, (hW.cell hz5).trans q1, (hW.cell hz5).trans q2, (hW.cell hz5).trans q3, hW⟩)
    have hbd : Below w5.heap.size w5 w5.drew := Below.drew (Below.refl _ _)
    have hbd1 : Below w1.heap.size w1 w5.drew := hb3.trans (hbd.mono hb3.size)
    go_region_held3 (fun W => W.cell? ⟨w.heap.size, 0, none⟩ = some (.int .i64 R.f) ∧ W.cell? ⟨w.heap.size, 1, none⟩ = some (.slice a1 n1 c1) ∧ W.cell? ⟨w.heap.size, 2, none⟩ = some (.slice a2 n2 c2) ∧ W.cell? ⟨w.heap.size, 3, none⟩ = some (.slice a3 n3 c3) ∧ Below w5.heap.size w5 W) (first | exact HS.out _ (by assumption) | fail)
      (first
        | (go_at_call 89; refine (Hpl.out _ hbd1).mono ?_; rintro e w7 ⟨v8, rfl, hm8⟩; obtain ⟨a8, c8, rfl, hI8⟩ := hm8.at_; have hb7 : Below w5.heap.size w5 w7 := hbd.trans (hm8.bel.mono hbd.size); have hb71 : Below w1.heap.size w1 w7 := hbd1.trans (hm8.bel.mono hbd1.size); clear hm8)
        | (go_at_call 113; refine (Hput.out _ hb71 _ _ _ hI8).mono ?_; rintro e w9 ⟨v9, rfl, hm9⟩; have hb9 : Below w5.heap.size w5 w9 := hb7.trans (hm9.bel.mono hb7.size)))
    go_wp2_with fail
    go_ret2
    exact ⟨_, by rw [HE.out] <;> rfl, by rw [Hf.out]; exact hm9.after (Hb1.out.trans (hb71.mono Hb1.out.size))⟩
  ·
    have Hf : Hid (resAll R l = []) := hid_ (if_neg he)
    have HE : Hid (errAll R l = err2 R l) := hid_ (if_neg he)
    generalize validR R = x1 at *
    generalize validW l = x2 at *
    generalize err2 R l = er at *
    have hq : (er != 0) = true := by simpa using he
    clear he
    go_enter Try.func76, Try.ntmps76
    go_wp2_with (first
      | (go_at_call 78; refine Hv1.out.mono ?_; rintro e w4 ⟨rfl, hb2⟩)
      | (go_at_call 86; refine (Hv2.out _ hb2).mono ?_; rintro e w' ⟨rfl, rfl⟩)
      | (go_at_call 88; refine (Hor.out _ _).mono ?_; rintro e w5 ⟨rfl, hw5⟩; have hb3 : Below w1.heap.size w1 w5 := (by rw [← hw5]; exact hb2.trans ((below_alloc w4 _).mono hb2.size)); clear hw5; obtain ⟨q0, q1, q2, q3⟩ := box4 HW1.out hb3))
    go_ret2
    exact ⟨_, by rw [HE.out] <;> rfl, by rw [Hf.out]; exact Made.none_ _ (Hb1.out.trans (hb3.mono Hb1.out.size))⟩
end Go.Proofs.Ytoopgmoopmbfnaa
namespace Go.Proofs.Ytoopgmoopmbfnaa
open Go.RowKit Go.Proofs.Kv

/-! ### Along -/
def alongF (R : Rl) : Nat → List Int → Nat → Option (List Int)
  | 0, v, _ => some v
  | k + 1, v, i => if plB R.f R.le R.ri v i then (if 8 < (putL v i (i + tkN R) R.o).length then none else alongF R k (putL v i (i + tkN R) R.o) (i + R.o.length + 1 - tkN R)) else alongF R k v (i + 1)
def alongP (R : Rl) (l : List Int) : Option (List Int) := alongF R (l.length + 1) l 0
def errAlong (R : Rl) (l : List Int) : Int := if err2 R l = 0 then (if (alongP R l).isSome then 0 else 3) else err2 R l
def resAlong (R : Rl) (l : List Int) : List Int := if err2 R l = 0 then (alongP R l).getD [] else []
theorem isWord_put {v o : List Int} {i j : Nat} (hv : isWord v = true) (ho : isWord o = true) : isWord (putL v i j o) = true := by
  rw [isWord, List.all_eq_true] at *
  intro x hx
  simp only [putL, List.mem_append] at hx
  rcases hx with (hx | hx) | hx
  · exact hv x (List.mem_of_mem_take hx)
  · exact ho x hx
  · exact hv x (List.mem_of_mem_drop hx)
theorem pl_fit {R : Rl} {l : List Int} {i : Nat} (h : plB R.f R.le R.ri l i = true) : i + tkN R ≤ l.length := by
  have := (one_ok h).2 (i : Int) (by simp)
  simpa using this.2
set_option maxRecDepth 100000 in
set_option maxHeartbeats 2000000 in
theorem ruAlong_calls (v : Value) (R : Rl) (a : Option Addr) (n c : Nat) (l : List Int) (w : World) (hr : RuleAt w v R) (h : IntsAt w a n c l) :
    Calls Try.prog 77 #[v, .slice a n c] w fun e w' => ∃ v', e = .returned (.tuple #[v', .int .i64 (errAlong R l)]) ∧ Made 3 w w' v' (resAlong R l) := by
  have Hr := hid_ hr
  obtain ⟨a1, n1, c1, a2, n2, c2, a3, n3, c3, rfl, h1, h2, h3⟩ := hr
  clear h1 h2 h3
  obtain ⟨w1, hw1⟩ : ∃ w1, w.alloc (.cells #[.int .i64 R.f, .slice a1 n1 c1, .slice a2 n2 c2, .slice a3 n3 c3] 49) = w1 := ⟨_, rfl⟩
  have Hb1 : Hid (Below w.heap.size w w1) := hid_ (by rw [← hw1]; exact below_alloc _ _)
  obtain ⟨k0, k1, k2, k3⟩ := box4 hw1 (Below.refl _ _)
  have HR1 := hid_ (Hr.out.below Hb1.out (Nat.le_refl _))
  have HI1 := hid_ (h.below Hb1.out (Nat.le_refl _))
  have HW1 := hid_ hw1
  have Hv1 := hid_ (ruValidate_calls _ R w1 HR1.out)
  have Hv2 := hid_ (fun w2 (hb : Below w1.heap.size w1 w2) => ruValidateWord_calls a n c l w2 (HI1.out.below hb (Nat.le_refl _)))
  have Hor := hid_ (show ∀ (w : World) (T : TypeId), Calls Try.prog 88 #[.slice (some ⟨w.heap.size, 0, none⟩) 2 2] (w.alloc (.cells #[.int .i64 (validR R), .int .i64 (validW l)] T)) fun e w' => e = .returned (.int .i64 (err2 R l)) ∧ w.alloc (.cells #[.int .i64 (validR R), .int .i64 (validW l)] T) = w' from fun w T => or2_calls _ _ w T)
  have Hok := hid_ (@err2_ok R l)
  by_cases he : err2 R l = 0
  · obtain ⟨e1, e2⟩ := Hok.out he
    obtain ⟨g1, g2, g3, g4, g5, g6⟩ := validR_ok e1
    obtain ⟨g7, g8⟩ := validW_ok e2
    have hn8 : n ≤ 8 := by rw [← h.len]; exact g7
    have Hf : Hid (resAlong R l = (alongP R l).getD []) := hid_ (if_pos he)
    have HE : Hid (errAlong R l = if (alongP R l).isSome then 0 else 3) := hid_ (if_pos he)
    have HA : Hid (alongP R l = alongF R (n + 1) l 0) := hid_ (by rw [alongP, h.len])
    have Hcl := hid_ (fun W (hW : Below w1.heap.size w1 W) => clone_calls a n c l W (HI1.out.below hW (Nat.le_refl _)) (by omega))
    have Hso := hid_ (fun W (hW : Below w1.heap.size w1 W) => sidesOf_calls _ R W (HR1.out.below hW (Nat.le_refl _)) g5 g6)
    have Htk := hid_ (fun W (hW : Below w1.heap.size w1 W) d os => taken_calls _ R _ ((HR1.out.below hW (Nat.le_refl _)).grown d os))
    have Hol := hid_ g3
    have How := hid_ g4
    have Hlw := hid_ g8
    have Hll := hid_ g7
    have Hlen := hid_ h.len
    have Ho1 : Hid (R.o.length = n1) := hid_ (by obtain ⟨_, _, _, _, _, _, _, _, _, e, h1, _, _⟩ := Hr.out; injection e with e; simp at e; have := h1.len; omega)
    rw [he] at Hor
    try rw [he]
    clear g1 g2 g3 g4 g5 g6 g7 g8 e1 e2 he
    generalize validR R = x1 at *
    generalize validW l = x2 at *
    go_enter Try.func77, Try.ntmps77
    go_wp2_with (first
      | (go_at_call 78; refine Hv1.out.mono ?_; rintro e w4 ⟨rfl, hb2⟩)
      | (go_at_call 86; refine (Hv2.out _ hb2).mono ?_; rintro e w' ⟨rfl, rfl⟩)
      | (go_at_call 88; refine (Hor.out _ _).mono ?_; rintro e w5 ⟨rfl, hw5⟩; have hb3 : Below w1.heap.size w1 w5 := (by rw [← hw5]; exact hb2.trans ((below_alloc w4 _).mono hb2.size)); clear hw5; obtain ⟨q0, q1, q2, q3⟩ := box4 HW1.out hb3))
    refine (Hcl.out _ hb3).mono ?_
    rintro e w6 ⟨v6, rfl, hm6⟩
    have hb6 := hb3.trans (hm6.bel.mono hb3.size)
    clear q0 q1 q2 q3
    obtain ⟨q0, q1, q2, q3⟩ := box4 HW1.out hb6
    have hown6 := own_base hm6.own hb3.size
    clear hm6
    go_wp2_with (go_at_call 114; refine (Hso.out _ hb6).mono ?_; rintro e w' ⟨rfl, hb7⟩)
    obtain ⟨w3, hw3⟩ : ∃ w3, w'.alloc (.cells #[.func (.func 139) #[.agg (nbV R.le)] #[], .func (.func 139) #[.agg (nbV R.ri)] #[]] 117) = w3 := ⟨_, rfl⟩
    have hb73 : Below w'.heap.size w' w3 := by rw [← hw3]; exact below_alloc w' _
    have hb63 : Below w6.heap.size w6 w3 := hb7.trans (hb73.mono hb7.size)
    have hb13 : Below w1.heap.size w1 w3 := hb6.trans (hb63.mono hb6.size)
    have hz3 : w'.heap.size < w3.heap.size := by rw [← hw3]; simp
    have s0 : w3.cell? ⟨w'.heap.size, 0, none⟩ = some (.func (.func 139) #[.agg (nbV R.le)] #[]) := by rw [← hw3, cells_alloc]; rfl
    have s1 : w3.cell? ⟨w'.heap.size, 1, none⟩ = some (.func (.func 139) #[.agg (nbV R.ri)] #[]) := by rw [← hw3, cells_alloc]; rfl
    have Hk : Hid (∀ W, Below w3.heap.size w3 W → (W.cell? ⟨w.heap.size, 0, none⟩ = some (.int .i64 R.f) ∧ W.cell? ⟨w.heap.size, 1, none⟩ = some (.slice a1 n1 c1) ∧ W.cell? ⟨w.heap.size, 2, none⟩ = some (.slice a2 n2 c2) ∧ W.cell? ⟨w.heap.size, 3, none⟩ = some (.slice a3 n3 c3)) ∧ W.cell? ⟨w'.heap.size, 0, none⟩ = some (.func (.func 139) #[.agg (nbV R.le)] #[]) ∧ W.cell? ⟨w'.heap.size, 1, none⟩ = some (.func (.func 139) #[.agg (nbV R.ri)] #[])) := hid_ (fun W hW =>
      ⟨box4 HW1.out (hb13.trans (hW.mono hb13.size)), (hW.cell (p := ⟨w'.heap.size, 0, none⟩) hz3).trans s0, (hW.cell (p := ⟨w'.heap.size, 1, none⟩) hz3).trans s1⟩)
    have hown3 := own_below hown6 hb63 (Nat.le_refl _)
    obtain ⟨av, cv, rfl, -⟩ := IntsAt.own hown3
    have Hb13 := hid_ hb13
    have Hb3 : Hid (Below w.heap.size w w3) := hid_ (Hb1.out.trans (hb13.mono Hb1.out.size))
    try rw [hw3]
    clear hw3 hb7 hb73 hb63 hb13 hz3 s0 s1 q0 q1 q2 q3 hown6 hb6 hb3
    go_loopg [7, 9] (n + 1) (fun g vv i wr => ∃ L : List Int, ∃ k : Nat, i = .int .i64 k ∧ g = L.length + 1 - k ∧ k ≤ L.length + 1 ∧ alongF R (L.length + 1 - k) L k = alongP R l ∧ L.length ≤ 8 ∧ isWord L = true ∧ wr.ownsRow w1.heap.size 3 1 vv L.length (L.map (Value.int .i64)) ∧ Below w3.heap.size w3 wr)
    case atStart => exact ⟨l, 0, rfl, by rw [Hlen.out]; omega, by omega, by rw [HA.out, Hlen.out, Nat.sub_zero], Hll.out, Hlw.out, hown3, Below.refl _ _⟩
    case round =>
      clear hown3
      obtain ⟨L, k, rfl, hgk, hk1, hrest, hL8, hLw, hown, hbel⟩ := hrel
      obtain ⟨av, cv, rfl, hI⟩ := IntsAt.own hown
      have Hgk := hid_ hgk; clear hgk
      have Hown := hid_ hown; clear hown
      have hsz := hbel.size
      have hb1r := hid_ (Hb13.out.trans (hbel.mono Hb13.out.size))
      by_cases hlt : k ≤ L.length
      · obtain ⟨m, hm⟩ : ∃ m, L.length + 1 - k = m + 1 := ⟨L.length - k, by omega⟩
        rw [hm, alongF] at hrest
        have Hm := hid_ hm; clear hm
        have Hc := hid_ (isPlaceP_calls R.f R.le R.ri av L.length cv L k wr hI hLw (by omega))
        obtain ⟨⟨q0, q1, q2, q3⟩, s0, s1⟩ := Hk.out wr hbel
        have hki : (k : Int) ≤ (L.length : Int) := by omega
        cases hh : plB R.f R.le R.ri L k with
        | false =>
          rw [hh] at Hc hrest
          have Hrest := hid_ hrest; clear hrest
          have hk8 : k ≤ 8 := by omega
          have Hlt := hid_ hlt
          have HL8 := hid_ hL8; have HLw := hid_ hLw
          clear hh hlt hL8 hLw
          generalize hN : L.length = N at *
          have HN := hid_ hN; clear hN
          go_wp2_with (go_at_call 115; refine (Hc.out).mono ?_; rintro e w' ⟨rfl, hbc⟩)
          go_roundg m
          case rel => exact ⟨L, k + 1, by go_num, by have := Hm.out; have := HN.out; omega, by have := HN.out; have := Hlt.out; omega, by rw [show L.length + 1 - (k + 1) = m by have := Hm.out; have := HN.out; omega]; exact Hrest.out, by rw [HN.out]; exact HL8.out, HLw.out, by rw [HN.out]; exact own_grown Hown.out hbc, hbel.trans (hbc.mono hsz)⟩
          case measure => have := Hgk.out; have := Hm.out; omega
        | true =>
          have hfit := pl_fit hh
          have hk := one_ok hh
          rw [hh] at Hc hrest
          simp only [if_true] at hrest
          have hpa : putAll R [(k : Int)] L = putL L k (k + tkN R) R.o := rfl
          have hplen := putL_length (o := R.o) (show k ≤ k + tkN R by omega) hfit
          have Hput := hid_ (fun W (hW : Below wr.heap.size wr W) (A : Option Addr) (hA : IntsAt W A 1 1 [(k : Int)]) => put_calls _ R av L.length cv L A 1 1 [(k : Int)] W (HR1.out.below (hb1r.out.trans (hW.mono hb1r.out.size)) (Nat.le_refl _)) (hI.below hW (Nat.le_refl _)) hA (by omega) (by omega) Hol.out hk)
          have hww := isWord_put (i := k) (j := k + tkN R) hLw How.out
          by_cases h8 : 8 < (putL L k (k + tkN R) R.o).length
          · rw [if_pos h8] at hrest
            have hpe : putErr R [(k : Int)] L = 3 := by rw [putErr, hpa, if_pos h8]
            have hpv : putRes R [(k : Int)] L = [] := by rw [putRes, hpa, if_pos h8]
            rw [hpe, hpv] at Hput
            have Hrest := hid_ hrest
            clear hrest h8 hpa hplen hww hpe hpv hk hfit hh hlt hL8 hLw
            generalize hN : L.length = N at *
            clear hN
            go_wp2_with (go_at_call 115; refine Hc.out.mono ?_; rintro e w8 ⟨rfl, hbc⟩; obtain ⟨⟨t0, t1, t2, t3⟩, -, -⟩ := Hk.out w8 (hbel.trans (hbc.mono hsz)))
            obtain ⟨w9, hw9⟩ : ∃ w9, w8.alloc (.cells #[.int .i64 k] 3) = w9 := ⟨_, rfl⟩
            have hI9 : IntsAt w9 (some ⟨w8.heap.size, 0, none⟩) 1 1 [(k : Int)] := by rw [← hw9]; exact IntsAt.one _ _ _
            have hb9 : Below wr.heap.size wr w9 := by rw [← hw9]; exact hbc.trans ((below_alloc w8 _).mono hbc.size)
            rw [hw9]
            refine (Hput.out w9 hb9 _ hI9).mono ?_
            rintro e w10 ⟨v10, rfl, hm10⟩
            have hbf : Below w.heap.size w w10 := Hb3.out.trans ((hbel.trans ((hb9.trans (hm10.bel.mono hb9.size)).mono hsz)).mono Hb3.out.size)
            go_wp2_with fail
            go_ret2
            exact ⟨_, by rw [HE.out, ← Hrest.out] <;> rfl, by rw [Hf.out, ← Hrest.out]; exact Made.none_ _ hbf⟩
          · rw [if_neg h8] at hrest
            have hpe : putErr R [(k : Int)] L = 0 := by rw [putErr, hpa, if_neg h8]
            have hpv : putRes R [(k : Int)] L = putL L k (k + tkN R) R.o := by rw [putRes, hpa, if_neg h8]
            rw [hpe, hpv] at Hput
            have htk1 : tkN R ≤ 1 := by unfold tkN; split <;> omega
            have hnx : (putL L k (k + tkN R) R.o).length + 1 - (k + R.o.length + 1 - tkN R) = m := by
              rw [hplen]; have := Hm.out; omega
            have hn1' := Ho1.out
            have hnx2 : k + R.o.length + 1 - tkN R ≤ (putL L k (k + tkN R) R.o).length + 1 := by rw [hplen]; omega
            have hwr : IntKind.i64.wrap ((n1 : Int) + 1) = (n1 : Int) + 1 := IntWalk.i64_in _ (by have := Hol.out; omega)
            have hwr2 : IntKind.i64.wrap ((n1 : Int) + 1 - (tkN R : Int)) = (n1 : Int) + 1 - (tkN R : Int) := IntWalk.i64_in _ (by have := Hol.out; omega)
            have hwr3 : IntKind.i64.wrap ((k : Int) + ((n1 : Int) + 1 - (tkN R : Int))) = (k : Int) + ((n1 : Int) + 1 - (tkN R : Int)) := IntWalk.i64_in _ (by have := Hol.out; omega)
            have Hnum : Hid ((k : Int) + ((n1 : Int) + 1 - (tkN R : Int)) = ((k + R.o.length + 1 - tkN R : Nat) : Int)) := hid_ (by omega)
            generalize hLL : putL L k (k + tkN R) R.o = LL at *
            have Hrest := hid_ hrest; have Hnx := hid_ hnx; have Hnx2 := hid_ hnx2; have Hww := hid_ hww; have H8 := hid_ h8
            clear hrest h8 hpa hplen hww hpe hpv hk hfit hh hlt hL8 hLw hLL hnx hnx2 hn1' htk1
            generalize hN : L.length = N at *
            clear hN
            go_wp2_with (go_at_call 115; refine Hc.out.mono ?_; rintro e w8 ⟨rfl, hbc⟩; obtain ⟨⟨t0, t1, t2, t3⟩, -, -⟩ := Hk.out w8 (hbel.trans (hbc.mono hsz)))
            obtain ⟨w9, hw9⟩ : ∃ w9, w8.alloc (.cells #[.int .i64 k] 3) = w9 := ⟨_, rfl⟩
            have hI9 : IntsAt w9 (some ⟨w8.heap.size, 0, none⟩) 1 1 [(k : Int)] := by rw [← hw9]; exact IntsAt.one _ _ _
            have hb9 : Below wr.heap.size wr w9 := by rw [← hw9]; exact hbc.trans ((below_alloc w8 _).mono hbc.size)
            rw [hw9]
            refine (Hput.out w9 hb9 _ hI9).mono ?_
            rintro e w10 ⟨v10, rfl, hm10⟩
            have hb10 : Below wr.heap.size wr w10 := hb9.trans (hm10.bel.mono hb9.size)
            have hb310 := hbel.trans (hb10.mono hsz)
            clear q0 q1 q2 q3 s0 s1 t0 t1 t2 t3 hw9
            obtain ⟨⟨q0, q1, q2, q3⟩, -, -⟩ := Hk.out w10 hb310
            have e0 := cell_regrown q0
            have e1 := cell_regrown q1
            have e2 := cell_regrown q2
            have e3 := cell_regrown q3
            have Htk1 := hid_ (fun d os => Htk.out w10 (Hb13.out.trans (hb310.mono Hb13.out.size)) d os)
            rw [tk_eq] at Htk1
            have Hown10 := hid_ (own_base hm10.own (show w1.heap.size ≤ w9.heap.size from Nat.le_trans hb1r.out.size hb9.size))
            go_wp2_with fail
            clear q0 q1 q2 q3
            refine wp_region_quiet_below (by kernel_rfl) (by kernel_rfl) ?_
            repeat (first | go_big_quiet_skip | (go_big_quiet_want; go_big_quiet_op; first | go_big_quiet_on | go_big_quiet_call ((go_at_call 116; exact Calls.regrown_of (Htk1.out _ _)))))
            refine wpQuiet_nil ?_
            rintro wq ⟨pq, hpq⟩
            have hbq := below_wq hpq; clear hpq
            clear e0 e1 e2 e3
            go_wp2_with fail
            go_roundg m
            case rel => exact ⟨LL, k + R.o.length + 1 - tkN R, by rw [Hnum.out], Hnx.out.symm, Hnx2.out, by rw [Hnx.out]; exact Hrest.out, by have := H8.out; omega, Hww.out, own_grown Hown10.out hbq, hb310.trans (hbq.mono hb310.size)⟩
            case measure => have := Hgk.out; have := Hm.out; omega
      · have hkn : L.length + 1 - k = 0 := by omega
        rw [hkn, alongF] at hrest
        have Hrest := hid_ hrest; clear hrest
        have hki : ¬ (k : Int) ≤ (L.length : Int) := by omega
        have hbf : Below w.heap.size w wr := Hb3.out.trans (hbel.mono Hb3.out.size)
        clear hL8 hLw hkn hlt
        generalize hN : L.length = N at *
        have HN := hid_ hN; clear hN
        go_wp2
        go_ret2
        exact ⟨_, by rw [HE.out, ← Hrest.out] <;> rfl, by rw [Hf.out, ← Hrest.out]; exact ⟨by rw [Option.getD_some, HN.out]; exact own_base Hown.out Hb1.out.size, hbf⟩⟩
  ·
    have Hf : Hid (resAlong R l = []) := hid_ (if_neg he)
    have HE : Hid (errAlong R l = err2 R l) := hid_ (if_neg he)
    generalize validR R = x1 at *
    generalize validW l = x2 at *
    generalize err2 R l = er at *
    have hq : (er != 0) = true := by simpa using he
    clear he
    go_enter Try.func77, Try.ntmps77
    go_wp2_with (first
      | (go_at_call 78; refine Hv1.out.mono ?_; rintro e w4 ⟨rfl, hb2⟩)
      | (go_at_call 86; refine (Hv2.out _ hb2).mono ?_; rintro e w' ⟨rfl, rfl⟩)
      | (go_at_call 88; refine (Hor.out _ _).mono ?_; rintro e w5 ⟨rfl, hw5⟩; have hb3 : Below w1.heap.size w1 w5 := (by rw [← hw5]; exact hb2.trans ((below_alloc w4 _).mono hb2.size)); clear hw5; obtain ⟨q0, q1, q2, q3⟩ := box4 HW1.out hb3))
    go_ret2
    exact ⟨_, by rw [HE.out] <;> rfl, by rw [Hf.out]; exact Made.none_ _ (Hb1.out.trans (hb3.mono Hb1.out.size))⟩
end Go.Proofs.Ytoopgmoopmbfnaa
