import Derived.Test.YtebbmhlkdfmmcaaGreatLift
namespace Go.Proofs.YtebbmhlkdfmmcaaGreat
open Go.ChangeShapes Go.WideShapes Go.ChangeAt Go.RowKit Go.Proofs.Kv
open Go.Deep
/-! ### the head of the program's dump -/
theorem words_cons : ∀ (w r : List Char), (∀ c ∈ w, c ≠ Char.ofNat 32) → wordsSigns (w ++ Char.ofNat 32 :: r) = w :: wordsSigns r
  | [], r, _ => rfl
  | c :: w, r, h => by
    have ih := words_cons w r fun d hd => h d (by simp [hd])
    have hc : c ≠ Char.ofNat 32 := h c (by simp)
    rw [List.cons_append, wordsSigns]
    · rw [ih]
    · exact hc
theorem init_is : Tryz.prog.initOrder = "harness 7ae141fa22ded9f438d8cec856ea9a7521a3ce00d04f9884a92ed8d1be25163d cut " ++ "at vyakarana/vyakaranalaw03.FeedEnds vyakarana/vyakaranalaw03.FeedForever vyakarana/vyakaranalaw03.FeedJoins vyakarana/vyakaranalaw03.FeedCalms" := by kernel_rfl
theorem init_first : ("harness 7ae141fa22ded9f438d8cec856ea9a7521a3ce00d04f9884a92ed8d1be25163d cut " : String).toList = "harness".toList ++ Char.ofNat 32 :: ("7ae141fa22ded9f438d8cec856ea9a7521a3ce00d04f9884a92ed8d1be25163d".toList ++ Char.ofNat 32 :: ("cut".toList ++ Char.ofNat 32 :: [])) := by decide +kernel
theorem init_words : ∃ X, wordsSigns Tryz.prog.initOrder.toList = "harness".toList :: "7ae141fa22ded9f438d8cec856ea9a7521a3ce00d04f9884a92ed8d1be25163d".toList :: "cut".toList :: X := by
  refine ⟨wordsSigns ("at vyakarana/vyakaranalaw03.FeedEnds vyakarana/vyakaranalaw03.FeedForever vyakarana/vyakaranalaw03.FeedJoins vyakarana/vyakaranalaw03.FeedCalms" : String).toList, ?_⟩
  rw [init_is, String.toList_append, init_first]
  simp only [List.append_assoc, List.cons_append, List.nil_append]
  rw [words_cons _ _ (by decide +kernel), words_cons _ _ (by decide +kernel), words_cons _ _ (by decide +kernel)]
theorem head_of {X : List (List Char)} : behindMainWord ("harness".toList :: "7ae141fa22ded9f438d8cec856ea9a7521a3ce00d04f9884a92ed8d1be25163d".toList :: "cut".toList :: X) = "cut".toList :: X := by
  unfold behindMainWord
  simp only
  rw [if_pos (by decide +kernel)]
theorem strip_head (X : List (List Char)) : stripLifts liftWords ("cut".toList :: X) = ([], "cut".toList :: X) := by
  simp only [liftWords]
  repeat (rw [stripLifts, if_neg (by decide +kernel)])
  rw [stripLifts]
theorem lays_no : Tryz.prog.laysLater = false := by kernel_rfl
theorem bears_no : Tryz.prog.bearsReflect = false := by kernel_rfl
theorem door_fits : Tryz.prog.doorFits [] = true := by kernel_rfl
theorem may_enter_of {P : Program} {X : List (List Char)} (h : behindMainWord (wordsSigns P.initOrder.toList) = "cut".toList :: X) (h1 : P.laysLater = false) (h2 : P.bearsReflect = false) (h3 : P.doorFits [] = true) : P.mayEnter = true := by
  unfold Program.mayEnter
  rw [h]
  simp only [strip_head]
  simp [h1, h2, h3]
theorem head_lifts_of {P : Program} {X : List (List Char)} (h : behindMainWord (wordsSigns P.initOrder.toList) = "cut".toList :: X) : P.headLifts = [] := by
  unfold Program.headLifts
  rw [h]
  simp only [strip_head]
  simp
theorem lifts_final_of {P : Program} {X : List (List Char)} (h : behindMainWord (wordsSigns P.initOrder.toList) = "cut".toList :: X) : P.liftsFinal = false := by
  unfold Program.liftsFinal
  rw [h, head_lifts_of h]
  simp
theorem make_of {P : Program} {X : List (List Char)} (h : behindMainWord (wordsSigns P.initOrder.toList) = "cut".toList :: X) : P.make = some .cut := by
  unfold Program.make
  rw [h]
  simp
theorem head_words : ∃ X, behindMainWord (wordsSigns Tryz.prog.initOrder.toList) = "cut".toList :: X := by
  obtain ⟨X, h⟩ := init_words
  exact ⟨X, by rw [h]; exact head_of⟩
theorem may_enter : Tryz.prog.mayEnter = true := by obtain ⟨X, h⟩ := head_words; exact may_enter_of h lays_no bears_no door_fits
theorem lifts_final : Tryz.prog.liftsFinal = false := by obtain ⟨X, h⟩ := head_words; exact lifts_final_of h
theorem make_is : Tryz.prog.make = some .cut := by obtain ⟨X, h⟩ := head_words; exact make_of h
theorem and_mk {a b : Bool} (ha : a = true) (hb : b = true) : (a && b) = true := by rw [ha, hb]; rfl
theorem beq_of {α : Type} [BEq α] {a b d : α} (h : b = d) (k : (a == d) = true) : (a == b) = true := by rw [h]; exact k
end Go.Proofs.YtebbmhlkdfmmcaaGreat
