import Derived.Test.YthmnmpglnaegfaaYj
namespace Go.Proofs.Ythmnmpglnaegfaa
open Go.RowKit Go.Proofs.Kv

/-! ### Different, Side, Conflict of the document -/
set_option maxRecDepth 100000 in
theorem r7Different_calls (a : Option Addr) (n c : Nat) (T : List (List Int)) (p : Int) (w : World) (h : ListsAt w a n c T) :
    Calls Try.prog 14 #[.slice a n c, .int .i64 p] w fun e w' => e = .returned (.tuple #[.int .i64 (resDiff T p), .int .i64 (placesE T [p])]) ∧ Below w.heap.size w w' := by
  have HV := hid_ (placed_calls a n c T p w h)
  have HR : Hid (resDiff T p = if placesE T [p] = 0 then (diffR T p.toNat : Int) else 0) := hid_ rfl
  generalize resDiff T p = R at *
  by_cases he : placesE T [p] = 0
  · have Hf := hid_ (HR.out.trans (if_pos he))
    obtain ⟨g, hp0, hp1⟩ := placesE_one he
    rw [he] at HV ⊢
    clear he HR
    rw [Hf.out]
    clear Hf
    obtain ⟨k, rfl⟩ := nat_of hp0
    have HD := hid_ (fun q => r7diff_calls a n c T k (w.drewN q) (h.drewN q) g (by omega))
    rw [Int.toNat_natCast]
    clear hp0 hp1 g
    go_enter Try.func14, Try.ntmps14
    go_wp2_with (first
      | (go_at_call 40; (with_reducible refine HV.out.mono ?_); rintro e w2 ⟨rfl, q, rfl⟩)
      | (go_at_call 34; (with_reducible refine (HD.out _).mono ?_); rintro e w3 ⟨rfl, hb⟩))
    go_ret2
    exact ⟨rfl, (below_drewN (Below.refl _ _) _).trans hb⟩
  · have Hf := hid_ (HR.out.trans (if_neg he))
    have hq : (placesE T [p] != 0) = true := by simpa using he
    generalize placesE T [p] = x at *
    clear he HR
    rw [Hf.out]
    go_enter Try.func14, Try.ntmps14
    go_wp2_with (go_at_call 40; (with_reducible refine HV.out.mono ?_); rintro e w2 ⟨rfl, q, rfl⟩)
    go_ret2
    exact ⟨rfl, below_drewN (Below.refl _ _) _⟩
theorem placesE_pair (T : List (List Int)) (p q : Int) : placesE T [p, q] = if placesE T [p] = 0 then placesE T [q] else placesE T [p] := by
  simp only [placesE, numE_one, numE_two]
  by_cases hv : validT T = 0
  · simp only [hv, if_true]
    cases isNum (n0 T) p <;> cases isNum (n0 T) q <;> rfl
  · simp [hv]
end Go.Proofs.Ythmnmpglnaegfaa
