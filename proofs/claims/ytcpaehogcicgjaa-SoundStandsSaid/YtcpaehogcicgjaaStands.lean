/- For what a name stands is as the document has it, for every list of lists and name, and it is named by this name alone. No conditions. -/
import Derived.Test.YtcpaehogcicgjaaLift
import Derived.Lib.SmallJoins
import Derived.Test.YtcpaehogcicgjaaLawF
namespace Go.Proofs.Ytcpaehogcicgjaa
open Go.ChangeShapes Go.WideShapes Go.ChangeAt Go.RowKit Go.Proofs.Kv
open Go.Deep

theorem cells_name_Ytcpaehogcicgjaa : Try.prog.cellsOf 35 = 2 := by kernel_rfl
theorem int_reads_Ytcpaehogcicgjaa {H : Type} {enc : TypeId × Value → H} {W : World} {base : Nat} {spare : Nat → Bool} {held : Bool} {x : Int} (h : (Lit.int .i64 x).wf = true) : ∃ n, DataW.trod enc Try.prog W base spare held n 3 [.int .i64 x] = some (.lit (.int .i64 x), []) := ⟨1, by simp [DataW.trod, Try.underlying3, h]⟩

set_option maxRecDepth 100000 in
theorem soundStands_lifted (os : Os) (started : os.Started) (H : Type) (enc : TypeId × Value → H) :
    ReturnsInHanded {} Try.checked os 4 .any (Rows.soundStandsSpec.pre6 enc Try.prog Try.f4 Rows.soundStandsRow.domain false) (Rows.soundStandsSpec.post enc Try.prog Try.f4 false true false false) := by
  refine returnsInHanded_of_change (C := Try.checked) own_Ytcpaehogcicgjaa started (by kernel_rfl) Try.func4
    (ChangeSpec.witness6 (enc := enc) (C := Try.checked) false ⟨#[], #[.slice none 0 0, .agg #[.int .i64 0, .int .i64 0]], []⟩ 8 (by kernel_rfl) (by kernel_rfl) (by kernel_rfl) (by kernel_rfl)) ?_
  intro W base args ds gs before hval0 hW hcnd _
  have hval : ∀ (j : Nat) t v, Try.f4.params[j]? = some t → args[j]? = some v → Value.okWide Try.prog W .any base t v := hval0
  have hW' := hW
  obtain ⟨p, q, hA0, hV, rfl, hfz, hnd⟩ := hW
  have hA : DataW.TrodAll enc Try.prog W 0 (fun _ => true) true Try.f4.params.toList args.toList ds p := hA0
  rw [Try.params4] at hA hval
  obtain ⟨v0, vs0, d0, ds0, p0, q0, hargs, rfl, rfl, h0, r0⟩ := trodAll_cons hA
  obtain ⟨v1, vs1, d1, ds1, p1, q1, rfl, rfl, rfl, h1, r1⟩ := trodAll_cons r0
  obtain ⟨rfl, rfl, rfl⟩ := trodAll_nil r1
  obtain rfl : args = #[v0, v1] := by cases args; simp_all
  obtain ⟨rfl, rfl⟩ := trodVars_none hV
  obtain ⟨a0, len0, cap0, rfl⟩ := okWide_slice Try.underlying22 (hval 0 22 v0 rfl rfl)
  obtain ⟨e10, e11, y10, y11, m1, rfl, rfl, rfl, hy10, hy11⟩ := Go.Joins.open_agg2 Try.underlying35 (by kernel_rfl) cells_name_Ytcpaehogcicgjaa (hval 1 35 v1 rfl rfl) h1
  obtain ⟨x1, g10, rfl, wx1⟩ := DataW.trod_int Try.underlying3 hy10
  obtain ⟨z1, g11, rfl, wz1⟩ := DataW.trod_int Try.underlying3 hy11
  simp at g10 g11
  subst g10 g11
  have k0 := h0
  have lt0 : ∀ x ∈ p0, x.block < W.heap.size := by obtain ⟨m, hm⟩ := k0; exact DataW.trod_lt m _ _ _ hm
  obtain ⟨F0, hF0⟩ : ∃ F, ListsAt W a0 len0 cap0 F := by
    obtain ⟨fuel, hf⟩ := h0
    rcases open_int_rows Try.underlying22 Try.underlying25 Try.underlying3 (by kernel_rfl) (by kernel_rfl) hf with ⟨hcs, _⟩ | ⟨x, l, c, A, Ln, C, Z, hcs, _, hl, hm, _, hcell⟩
    · simp [Value.cells] at hcs
      obtain ⟨rfl, rfl, rfl⟩ := hcs
      exact ⟨[], ListsAt.nil _ _ _ (by omega)⟩
    · simp [Value.cells] at hcs
      obtain ⟨rfl, rfl, rfl⟩ := hcs
      exact ⟨_, lists_in hl hm hcell⟩
  clear hA0 hval0
  refine (soundStands_calls a0 len0 cap0 F0 x1 z1 W hF0).mono fun e W' ⟨he, bel⟩ => ?_
  subst he
  exact ⟨_, rfl, _, _, _, [], _, [], hW', trodAll_mk1 (shut_bool Try.underlying4 _), (trodAll_cons_mk (Below.trod laidOut_Ytcpaehogcicgjaa (by kernel_rfl) (of_decide_eq_true (by kernel_rfl)) k0 bel lt0) (trodAll_cons_mk (Go.Joins.shut_agg2 (y0 := (.lit (.int .i64 x1), [])) (y1 := (.lit (.int .i64 z1), [])) Try.underlying35 (by kernel_rfl) cells_name_Ytcpaehogcicgjaa (int_reads_Ytcpaehogcicgjaa wx1) (int_reads_Ytcpaehogcicgjaa wz1)) trodAll_mk0)), rfl, bel.frame _, fun h => by cases h⟩

theorem soundStands_over : Rows.soundStandsRow.holds Try.pinned (OpenSpec.ofChange Rows.soundStandsSpec) :=
  OpenClaim.holds_of_wide 4 Try.f4 rfl rfl rfl rfl rfl rfl rfl ⟨rfl, rfl, rfl, rfl, rfl⟩ rfl rfl rfl rfl rfl (by kernel_rfl) Try.func4 (by kernel_rfl)
    (of_decide_eq_true (by kernel_rfl)) (by unfold Func.isWrapper; first | (rw [if_pos (by decide +kernel)]; kernel_rfl) | (rw [if_neg (by decide +kernel)]; exact ⟨rfl, rfl⟩))
    (fun os started H enc _ => soundStands_lifted os started H enc)

theorem soundStands_proved : Rows.SoundStandsSaid := soundStands_over
end Go.Proofs.Ytcpaehogcicgjaa
