namespace Go.Proofs.Snd
/-- a sound -/
def okS (x : Int) : Bool := decide (0 ≤ x) && decide (x ≤ 5)
def okRow (r : List Int) : Bool := !r.isEmpty && r.all okS
def dup : List Int → Bool
  | [] => false
  | x :: l => l.contains x || dup l
def validT (t : List (List Int)) : Int :=
  if t.length = 0 ∨ 6 < t.length then 3 else if t.all okRow = false then 1 else if dup t.flatten then 5 else 0
def six : List Int := [0, 1, 2, 3, 4, 5]
def sorted (l : List Int) : List Int := six.filter fun n => l.contains n

theorem dup_iff (l : List Int) : dup l = false ↔ l.Nodup := by
  induction l with
  | nil => simp [dup]
  | cons x l ih => simp [dup, ih, List.nodup_cons]

theorem dup_eq (l : List Int) : dup l = decide (¬ l.Nodup) := by
  have := dup_iff l
  cases h : dup l <;> simp_all

theorem nodup_snoc (l : List Int) (x : Int) : (l ++ [x]).Nodup ↔ l.Nodup ∧ x ∉ l := by
  rw [List.nodup_append]
  simp
  intro _
  exact ⟨fun h a => h x a rfl, fun h a ha e => h (e ▸ ha)⟩

theorem sixNodup : six.Nodup := by decide
theorem sixSorted : six.Pairwise (· < ·) := by decide
theorem mem_six (x : Int) : x ∈ six ↔ 0 ≤ x ∧ x ≤ 5 := by simp [six]; omega
theorem mem_sorted {l : List Int} {x : Int} : x ∈ sorted l ↔ x ∈ l ∧ 0 ≤ x ∧ x ≤ 5 := by
  simp only [sorted, List.mem_filter, mem_six, List.contains_iff_mem]; exact And.comm
theorem sorted_pairwise (l : List Int) : (sorted l).Pairwise (· < ·) := List.Pairwise.filter _ sixSorted

/-- two strictly ascending lists with the same members are one -/
theorem asc_unique {α : Type} {lt : α → α → Prop} (irr : ∀ a, ¬ lt a a) (tr : ∀ a b c, lt a b → lt b c → lt a c) :
    ∀ {l m : List α}, l.Pairwise lt → m.Pairwise lt → (∀ x, x ∈ l ↔ x ∈ m) → l = m
  | [], [], _, _, _ => rfl
  | [], b :: m, _, _, h => absurd ((h b).2 (by simp)) (by simp)
  | a :: l, [], _, _, h => absurd ((h a).1 (by simp)) (by simp)
  | a :: l, b :: m, hl, hm, h => by
    rw [List.pairwise_cons] at hl hm
    have e : a = b := by
      rcases List.mem_cons.1 ((h a).1 (by simp)) with e | ha
      · exact e
      · rcases List.mem_cons.1 ((h b).2 (by simp)) with e | hb
        · exact e.symm
        · exact absurd (tr _ _ _ (hl.1 _ hb) (hm.1 _ ha)) (irr _)
    subst e
    congr 1
    refine asc_unique irr tr hl.2 hm.2 fun x => ?_
    constructor
    · intro hx
      rcases List.mem_cons.1 ((h x).1 (List.mem_cons_of_mem _ hx)) with e | hx'
      · exact absurd (e ▸ hl.1 _ hx) (irr _)
      · exact hx'
    · intro hx
      rcases List.mem_cons.1 ((h x).2 (List.mem_cons_of_mem _ hx)) with e | hx'
      · exact absurd (e ▸ hm.1 _ hx) (irr _)
      · exact hx'

theorem asc_int {l m : List Int} (hl : l.Pairwise (· < ·)) (hm : m.Pairwise (· < ·)) (h : ∀ x, x ∈ l ↔ x ∈ m) : l = m :=
  asc_unique (fun a => Int.lt_irrefl a) (fun _ _ _ => Int.lt_trans) hl hm h

/-- what the library's sort makes of different sounds -/
theorem sort_sounds {l : List Int} (hn : l.Nodup) (hr : ∀ x ∈ l, 0 ≤ x ∧ x ≤ 5) : l.mergeSort (fun a b => decide (a ≤ b)) = sorted l := by
  have hp : (l.mergeSort (fun a b => decide (a ≤ b))).Perm l := List.mergeSort_perm _ _
  have hs : (l.mergeSort (fun a b => decide (a ≤ b))).Pairwise fun a b => (decide (a ≤ b)) = true := List.pairwise_mergeSort (fun a b c => by simp; omega) (fun a b => by simp; omega) l
  have hnd : (l.mergeSort (fun a b => decide (a ≤ b))).Nodup := hp.symm.nodup hn
  refine asc_int ?_ (sorted_pairwise l) fun x => ?_
  · have := hs.and hnd
    exact this.imp fun ⟨h1, h2⟩ => by simp at h1; omega
  · rw [hp.mem_iff, mem_sorted]
    exact ⟨fun h => ⟨h, hr x h⟩, fun h => h.1⟩
end Go.Proofs.Snd
