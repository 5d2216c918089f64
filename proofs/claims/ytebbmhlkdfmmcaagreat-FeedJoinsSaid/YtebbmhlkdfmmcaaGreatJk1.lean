import Derived.Test.YtebbmhlkdfmmcaaGreatJxd
import Derived.Test.YtebbmhlkdfmmcaaGreatJl
namespace Go.Proofs.YtebbmhlkdfmmcaaGreat
open Go.RowKit Go.Proofs.Kv Go

/-! ### words that two words reach -/
def meetB (A B : List (List Int)) : Bool := A.any fun x => decide (x ∈ B)
theorem meetB_iff {A B : List (List Int)} : meetB A B = true ↔ ∃ x, x ∈ A ∧ x ∈ B := by unfold meetB; simp
theorem meetB_eq {A B C D : List (List Int)} (h : (∃ x, x ∈ A ∧ x ∈ B) ↔ ∃ x, x ∈ C ∧ x ∈ D) : meetB A B = meetB C D := by
  cases h1 : meetB A B with
  | true => exact (meetB_iff.2 (h.1 (meetB_iff.1 h1))).symm
  | false =>
    cases h2 : meetB C D with
    | true => rw [meetB_iff.2 (h.2 (meetB_iff.1 h2))] at h1; cases h1
    | false => rfl
def errJn (L : List Rl) (u v : List Int) : Int := if errSW L [u, v] = 0 then (if errWeb L u = 0 then errWeb L v else errWeb L u) else errSW L [u, v]
def joinB (L : List Rl) (u v : List Int) : Bool := decide (errJn L u v = 0) && meetB (resReach L v) (resReach L u)
theorem errSW2_ok {L : List Rl} {u v : List Int} (h : errSW L [u, v] = 0) : validS L = 0 ∧ validW u = 0 ∧ validW v = 0 ∧ errSW L [u] = 0 ∧ errSW L [v] = 0 := by
  unfold errSW firstW firstW firstW at h
  by_cases h1 : validS L = 0
  · rw [if_pos h1] at h
    by_cases h2 : validW u = 0
    · rw [if_pos h2] at h
      by_cases h3 : validW v = 0
      · refine ⟨h1, h2, h3, ?_, ?_⟩
        · unfold errSW firstW firstW; rw [if_pos h1, if_pos h2]
        · unfold errSW firstW firstW; rw [if_pos h1, if_pos h3]
      · rw [if_neg h3] at h; exact absurd h h3
    · rw [if_neg h2] at h; exact absurd h h2
  · rw [if_neg h1] at h; exact absurd h h1
theorem mem_reach {L : List Rl} {l x : List Int} (he : errWeb L l = 0) : x ∈ resReach L l ↔ Rch L l x := by
  unfold resReach
  cases hy : webR L l with
  | none => exact absurd he (webR_none hy)
  | some y =>
    obtain ⟨-, h1, h2⟩ := webR_some hy
    obtain ⟨hs, hl⟩ := errSW_ok' h1
    obtain ⟨-, g2⟩ := exploreF_some (validS_ok hs).2 hl h2
    show x ∈ y.words.mergeSort leL ↔ _
    rw [(List.mergeSort_perm _ _).mem_iff]
    exact g2 x

/-! ### meet of the document -/
theorem findN_mem (W : List (List Int)) (v : List Int) : decide (findN W v ≥ 0) = decide (v ∈ W) := by
  unfold findN
  cases h : findW W v with
  | some i =>
    obtain ⟨h1, h2⟩ := findW_some h
    have hm : v ∈ W := by rw [← h2]; simp [List.getD, List.getElem?_eq_getElem h1]
    rw [decide_eq_true hm]
    exact decide_eq_true (by show (i : Int) ≥ 0; omega)
  | none =>
    have hm : v ∉ W := by
      intro hm
      unfold findW at h
      rw [List.findIdx?_eq_none_iff] at h
      have := h v hm
      simp at this
    rw [decide_eq_false hm]; rfl
theorem meetB_no {A B : List (List Int)} (h : ∀ i, i < A.length → A.getD i [] ∉ B) : meetB A B = false := by
  cases h1 : meetB A B with
  | false => rfl
  | true =>
    obtain ⟨x, hx, hb⟩ := meetB_iff.1 h1
    obtain ⟨i, hi, rfl⟩ := List.mem_iff_getElem.1 hx
    have := h i hi
    simp [List.getD, List.getElem?_eq_getElem hi] at this
    exact absurd hb this
theorem meetB_hit {A B : List (List Int)} {i : Nat} (hi : i < A.length) (h : A.getD i [] ∈ B) : meetB A B = true := meetB_iff.2 ⟨_, by simp [List.getD, List.getElem?_eq_getElem hi], h⟩
set_option maxRecDepth 100000 in
set_option maxHeartbeats 4000000 in
theorem meet_calls (a : Option Addr) (n c : Nat) (A : List (List Int)) (a' : Option Addr) (n' c' : Nat) (B : List (List Int)) (w : World) (h : ListsAt w a n c A) (h' : ListsAt w a' n' c' B) :
    Calls Tryz.prog 42 #[.slice a' n' c', .slice a n c] w fun e w' => e = .returned (.bool (meetB B A)) ∧ ∃ q, w' = w.drewN q := by
  have hn' : n' ≤ 9223372036854775807 := Nat.le_trans h'.le h'.small
  have Hno := hid_ (@meetB_no B A)
  have Hhit := hid_ (fun i hi hh => @meetB_hit B A i hi hh)
  have Hl := hid_ h'.len
  have HB := hid_ (fun q k (hk : k < n') => show ∃ b off a1 n1 c1, a' = some ⟨b, off, none⟩ ∧ (w.drewN q).cell? ⟨b, off + k, none⟩ = some (.slice a1 n1 c1) ∧ IntsAt (w.drewN q) a1 n1 c1 (B.getD k []) from by
    obtain ⟨b, off, a1, n1, c1, ha, hb, hc, hr⟩ := h'.cells k hk
    exact ⟨b, off, a1, n1, c1, ha, hc, hr.drewN q⟩)
  have HF := hid_ (fun q a1 n1 c1 v (hv : IntsAt (w.drewN q) a1 n1 c1 v) => find_calls a n c A a1 n1 c1 v (w.drewN q) (h.drewN q) hv)
  clear h h'
  go_enter Tryz.func42, Tryz.ntmps42
  go_wp2
  go_loopw [5] (fun iv wr => ∃ k q : Nat, k ≤ n' ∧ iv = .int .i64 (k : Int) ∧ (∀ i, i < k → B.getD i [] ∉ A) ∧ wr = w.drewN q) (fun iv _ => n' - (intOf iv).toNat)
  case atStart => exact ⟨0, 0, Nat.zero_le _, rfl, fun _ h => absurd h (by omega), rfl⟩
  case round =>
    obtain ⟨k, q, hk, rfl, hall, rfl⟩ := hrel
    have Hall := hid_ hall
    clear hall
    by_cases hlt : k < n'
    · obtain ⟨b, off, a1, n1, c1, rfl, hcell, hr⟩ := HB.out q k hlt
      have HFk := hid_ (HF.out q a1 n1 c1 _ hr)
      have hf := findN_mem A (B.getD k [])
      have hwk : IntKind.i64.wrap ((k : Int) + 1) = (k : Int) + 1 := IntWalk.i64_in _ (by omega)
      clear hr
      generalize findN A (B.getD k []) = fv at *
      by_cases hm : B.getD k [] ∈ A
      · rw [decide_eq_true hm] at hf
        have Hr : Hid (meetB B A = true) := hid_ (Hhit.out k (by rw [Hl.out]; exact hlt) hm)
        clear hm
        go_wp2_with (go_at_call 63; (with_reducible refine HFk.out.mono ?_); rintro e w2 ⟨rfl, q2, rfl⟩)
        go_ret
        exact ⟨retB Hr.out, q + q2, by simp⟩
      · rw [decide_eq_false hm] at hf
        have Hm := hid_ hm
        clear hm
        go_wp2_with (go_at_call 63; (with_reducible refine HFk.out.mono ?_); rintro e w2 ⟨rfl, q2, rfl⟩)
        go_roundw
        case rel => exact ⟨k + 1, q + q2, by omega, by go_num, fun i hi => by
          by_cases e : i = k
          · rw [e]; exact Hm.out
          · exact Hall.out i (by omega), by simp⟩
        case measure => (simp [intOf]; try omega)
    · have Hr : Hid (meetB B A = false) := hid_ (Hno.out fun i hi => Hall.out i (by rw [Hl.out] at hi; omega))
      go_wp2
      go_ret
      exact ⟨retB Hr.out, q, rfl⟩
end Go.Proofs.YtebbmhlkdfmmcaaGreat
