import Derived.Test.YtoopgmoopmbfnaaSndF
namespace Go.Proofs.Ytoopgmoopmbfnaa
open Go.RowKit Go.Proofs.Kv Go.Proofs.Snd
attribute [local go_sem] Oper.semAt_some

/-! ### fits, Clone -/
def fitP (o s : List Int) : Bool := (spanL o s).2 - (spanL o s).1 == (s.length : Int)
def fitsP (F : List (List Int)) (o : List Int) : Bool := F.all (fitP o)
theorem spanL_bd (o s : List Int) : -1 ≤ (spanL o s).1 ∧ (spanL o s).1 ≤ o.length ∧ 0 ≤ (spanL o s).2 ∧ (spanL o s).2 ≤ o.length + 1 := by
  have h := ends_bd o s
  unfold spanL sp1
  simp only
  split <;> omega
set_option maxRecDepth 100000 in
theorem sndFits_calls (a : Option Addr) (n c : Nat) (F : List (List Int)) (a' : Option Addr) (n' c' : Nat) (o : List Int) (w : World) (h : ListsAt w a n c F) (h' : IntsAt w a' n' c' o) (hs : n' ≤ 1000000) :
    Calls Try.prog 50 #[.slice a n c, .slice a' n' c'] w fun e w' => e = .returned (.bool (fitsP F o)) ∧ w = w' := by
  have hn : n ≤ 9223372036854775807 := Nat.le_trans h.le h.small
  go_enter Try.func50, Try.ntmps50
  go_wp2
  go_loop [11] (fun i => ∃ k : Nat, k ≤ n ∧ i = .int .i64 k ∧ ∀ j, j < k → fitP o (F.getD j []) = true) (fun i => n - (intOf i).toNat)
  case atStart => exact ⟨0, Nat.zero_le _, rfl, fun _ h => absurd h (by omega)⟩
  case round =>
    obtain ⟨k, hk, rfl, hall⟩ := hrel
    have Hall := hid_ hall; clear hall
    by_cases hlt : k < n
    · obtain ⟨b, off, a1, n1, c1, rfl, hb, hcell, hrow⟩ := h.cells k hlt
      have hl : k < F.length := by rw [h.len]; exact hlt
      generalize hr : F.getD k [] = r at hrow
      have Hr := hid_ hr; clear hr
      have hbd := spanL_bd o r
      rw [h'.len] at hbd
      have Hone : Hid (fitP o r = ((spanL o r).2 - (spanL o r).1 == (n1 : Int))) := hid_ (by rw [fitP, hrow.len])
      have hec := span_calls _ _ _ _ _ _ _ _ w hrow h'
      generalize spanL o r = p at hec hbd Hone
      obtain ⟨f, l⟩ := p
      simp only at hbd hec
      obtain ⟨b1, b2, b3, b4⟩ := hbd
      have Hec := hid_ hec; clear hec
      cases hq : (l - f == (n1 : Int)) with
      | true =>
        have hq' : (l - f != (n1 : Int)) = false := by rw [bne, hq]; rfl
        have Hf : Hid (fitP o r = true) := hid_ (by rw [Hone.out]; exact hq)
        clear Hone hq
        go_wp2_with (go_at_call 100; refine Hec.out.mono ?_; rintro e w' ⟨rfl, rfl⟩)
        go_round
        case rel => exact ⟨k + 1, by omega, by go_num, lt_snoc Hall.out (by rw [Hr.out]; exact Hf.out)⟩
        case measure => simp [intOf]; omega
      | false =>
        have hq' : (l - f != (n1 : Int)) = true := by rw [bne, hq]; rfl
        have Hf : Hid (fitsP F o = false) := hid_ (all_no hl (by rw [Hr.out, Hone.out]; exact hq))
        clear Hone hq
        go_wp2_with (go_at_call 100; refine Hec.out.mono ?_; rintro e w' ⟨rfl, rfl⟩)
        go_ret
        exact ⟨retB Hf.out, rfl⟩
    · have Hf : Hid (fitsP F o = true) := hid_ (all_yes h.len fun j hj => Hall.out j (by omega))
      go_wp2
      go_ret
      exact ⟨retB Hf.out, rfl⟩

set_option maxRecDepth 100000 in
theorem clone_calls (a : Option Addr) (n c : Nat) (l : List Int) (w : World) (h : IntsAt w a n c l) (hs : n ≤ 100000) :
    Calls Try.prog 91 #[.slice a n c] w fun e w' => ∃ v, e = .returned v ∧ Made 3 w w' v l := by
  obtain ⟨i0, hi0, hz0, hz1, hz2⟩ := info_parts Try.infoInt
  cases a with
  | none =>
    have hn : n = 0 := by
      rcases Nat.eq_zero_or_pos n with h0 | h0
      · exact h0
      · obtain ⟨_, _, h1, _⟩ := h.cells 0 h0; cases h1
    subst hn
    have Hl : Hid (l = []) := hid_ (List.eq_nil_of_length_eq_zero h.len)
    have heq : ∀ W, (binOp .eql 23 (.slice none 0 c) (.slice none 0 0)).run Try.prog W = .ok (.bool true) W := fun W => Lib.run_eql_slice_nil W _ _ none 0 c 0 0 Try.underlying23
    go_enter Try.func91, Try.ntmps91
    go_wp2
    go_ret
    exact ⟨_, rfl, by rw [Hl.out]; exact Made.none_ _ (Below.refl _ _)⟩
  | some x =>
    have heq : ∀ W, (binOp .eql 23 (.slice (some x) n c) (.slice none 0 0)).run Try.prog W = .ok (.bool false) W := fun W => Lib.run_eql_slice_nil W _ _ (some x) n c 0 0 Try.underlying23
    have hown : (w.alloc (.cells #[] 3)).ownsRow w.heap.size 3 1 (.slice (some ⟨w.heap.size, 0, none⟩) 0 0) 0 (([] : List Int).map (Value.int .i64)) := World.ownsRow_made w #[] 0 (Nat.le_refl _) (by omega) rfl
    have hI := h.below ((Below.refl _ w).alloc (Nat.le_refl _) (.cells #[] 3)) (Nat.le_refl _)
    have hlen : Hid (l.length = n) := hid_ h.len
    go_enter Try.func91, Try.ntmps91
    go_wp2_with (at_builtin; refine wpList_append_ints _ rfl (.tmp 5) (.tmp 6) _ rfl w.heap.size 3 i0 Try.underlying23 hi0 hz0 hz1 hz2 _ _ _ rfl hown _ _ _ _ rfl hI (by omega) (by simp) ?_; intro v' w1 hown1 hg1 hat1)
    go_ret
    refine ⟨_, rfl, ⟨?_, ((Below.refl _ w).alloc (Nat.le_refl _) (.cells #[] 3)).grown hg1 (by simp) fun k hk => ?_⟩⟩
    · rw [Nat.zero_add, List.nil_append] at hown1
      rw [hlen.out]; exact hown1
    · have : some w.heap.size = some k := hk
      injection this with this
      omega

/-! ### Order -/
theorem stays_cell {D : Nat} {p : Addr} {v : Value} (hp : p.block < D) : Stays (D + 2) fun W => W.cell? p = some v := fun _ _ _ h hg hr =>
  hg.cell h fun e => by have := (hr _ e.symm).1; omega
theorem stays_below {D B0 : Nat} {W0 : World} (hB : B0 ≤ D) (h0 : B0 ≤ W0.heap.size) : Stays (D + 2) fun W => Below B0 W0 W := fun _ _ _ h hg hr =>
  h.grown hg (Nat.le_trans h0 h.size) fun r e => by have := (hr r e).1; omega
theorem stays_own {D E n : Nat} {v : Value} {xs : List Value} : Stays (D + 2) fun W => W.ownsRow (D + 3) E 1 v n xs := fun A A' row h hg hr => by
  refine World.ownsRow.kept h hg ?_
  by_cases hv : v.ownBlock = none
  · exact .inl hv
  · refine .inr fun e => ?_
    obtain ⟨r, hr'⟩ := Option.ne_none_iff_exists'.1 hv
    have h1 := (h.lt r hr').1
    rw [hr'] at e
    rcases (hr r e.symm).2 with h2 | ⟨o, ho, hc⟩
    · omega
    · rcases h.2 with ⟨rfl, _⟩ | ⟨g, cap, cur, rfl, _, hg', _⟩
      · simp [Value.ownBlock] at hr'
      · have : g = r := by simpa [Value.ownBlock] using hr'
        subst this
        rw [hg'] at ho
        injection ho with ho
        subst ho
        simp [Obj.isCells] at hc
theorem stays_and {B : Nat} {I J : World → Prop} (h : Stays B I) (k : Stays B J) : Stays B fun W => I W ∧ J W := fun A A' row hs hg hr => ⟨h A A' row hs.1 hg hr, k A A' row hs.2 hg hr⟩
theorem stays_pure {B : Nat} {p : Prop} : Stays B fun _ => p := fun _ _ _ h _ _ => h
theorem stays_ex {B : Nat} {α : Type} {I : α → World → Prop} (h : ∀ a, Stays B (I a)) : Stays B fun W => ∃ a, I a W := fun A A' row ⟨a, hs⟩ hg hr => ⟨a, h a A A' row hs hg hr⟩

theorem orders_calls (m : Int) (w : World) :
    Calls Try.prog 90 #[.int .i64 m] w fun e w' => e = .returned (.func (.func 125) #[] #[.pointer (some ⟨w.heap.size, 0, none⟩)]) ∧ w' = w.alloc (.cells #[.int .i64 m] 3) := by
  go_enter Try.func90, Try.ntmps90
  go_wp2
  go_ret
  exact ⟨rfl, rfl⟩

theorem find_some {p : List Int → Bool} : ∀ {O : List (List Int)} {k : Nat}, (∀ j, j < k → p (O.getD j []) = false) → k < O.length → p (O.getD k []) = true → O.find? p = some (O.getD k [])
  | [], k, _, hk, _ => absurd hk (by simp)
  | x :: O, 0, _, _, hp => by simp [List.getD] at hp; simp [List.find?, hp, List.getD]
  | x :: O, k + 1, h, hk, hp => by
    have h0 := h 0 (by omega)
    simp [List.getD] at h0
    rw [List.find?_cons, h0]
    have := find_some (p := p) (O := O) (k := k) (fun j hj => by simpa [List.getD] using h (j + 1) (by omega)) (by simpa using hk) (by simpa [List.getD] using hp)
    simpa [List.getD] using this
theorem find_none {p : List Int → Bool} {O : List (List Int)} (h : ∀ j, j < O.length → p (O.getD j []) = false) : O.find? p = none := by
  rw [List.find?_eq_none]
  intro x hx
  obtain ⟨i, hi, e⟩ := List.mem_iff_getElem.1 hx
  have := h i hi
  rw [List.getD, List.getElem?_eq_getElem hi, Option.getD_some, e] at this
  rw [this]; simp
def orderRes (m : Int) (F : List (List Int)) : Option (List Int) := (ordersL m.toNat).find? (fitsP F)
def ordOk (m : Int) (F : List (List Int)) : Bool := decide (famErr m F = 0) && (orderRes m F).isSome
def ordV (m : Int) (F : List (List Int)) : List Int := if famErr m F = 0 then (orderRes m F).getD [] else []
set_option maxRecDepth 100000 in
set_option maxHeartbeats 1000000 in
theorem sndOrder_calls (m : Int) (a : Option Addr) (n c : Nat) (F : List (List Int)) (w : World) (h : ListsAt w a n c F) :
    Calls Try.prog 43 #[.int .i64 m, .slice a n c] w fun e w' => ∃ v, e = .returned (.tuple #[v, .bool (ordOk m F), .int .i64 (famErr m F)]) ∧ Made 3 w w' v (ordV m F) := by
  have hb4 : Below w.heap.size w ((((w.alloc (.cells #[.slice a n c] 22)).alloc (.cells #[.slice none 0 0] 23)).alloc (.cells #[.bool false] 4)).alloc (.cells #[.int .i64 0] 27)) :=
    (((((Below.refl _ w).alloc (Nat.le_refl _) _).alloc (by simp) _).alloc (by first | (simp; done) | (simp; omega)) _).alloc (by first | (simp; done) | (simp; omega)) _)
  have hsz4 : ((((w.alloc (.cells #[.slice a n c] 22)).alloc (.cells #[.slice none 0 0] 23)).alloc (.cells #[.bool false] 4)).alloc (.cells #[.int .i64 0] 27)).heap.size = w.heap.size + 4 := by simp
  have q0 : ((((w.alloc (.cells #[.slice a n c] 22)).alloc (.cells #[.slice none 0 0] 23)).alloc (.cells #[.bool false] 4)).alloc (.cells #[.int .i64 0] 27)).cell? ⟨w.heap.size, 0, none⟩ = some (.slice a n c) := by
    rw [World.cell?_alloc_past _ _ _ (by first | (simp; done) | (simp; omega)), World.cell?_alloc_past _ _ _ (by first | (simp; done) | (simp; omega)), World.cell?_alloc_past _ _ _ (by simp), World.cell?_alloc_at _ _ _ _ (by rfl)]; rfl
  have q1 : ((((w.alloc (.cells #[.slice a n c] 22)).alloc (.cells #[.slice none 0 0] 23)).alloc (.cells #[.bool false] 4)).alloc (.cells #[.int .i64 0] 27)).cell? ⟨w.heap.size + 1, 0, none⟩ = some (.slice none 0 0) := by
    rw [World.cell?_alloc_past _ _ _ (by first | (simp; done) | (simp; omega)), World.cell?_alloc_past _ _ _ (by first | (simp; done) | (simp; omega)), World.cell?_alloc_at _ _ _ _ (by simp)]; rfl
  have q2 : ((((w.alloc (.cells #[.slice a n c] 22)).alloc (.cells #[.slice none 0 0] 23)).alloc (.cells #[.bool false] 4)).alloc (.cells #[.int .i64 0] 27)).cell? ⟨w.heap.size + 1 + 1, 0, none⟩ = some (.bool false) := by
    rw [World.cell?_alloc_past _ _ _ (by first | (simp; done) | (simp; omega)), World.cell?_alloc_at _ _ _ _ (by simp)]; rfl
  have q3 : ((((w.alloc (.cells #[.slice a n c] 22)).alloc (.cells #[.slice none 0 0] 23)).alloc (.cells #[.bool false] 4)).alloc (.cells #[.int .i64 0] 27)).cell? ⟨w.heap.size + 1 + 1 + 1, 0, none⟩ = some (.int .i64 0) := by
    rw [World.cell?_alloc_at _ _ _ _ (by simp)]; rfl
  have f1 : ((((w.alloc (.cells #[.slice a n c] 22)).alloc (.cells #[.slice none 0 0] 23)).alloc (.cells #[.bool false] 4)).alloc (.cells #[.int .i64 0] 27)).frozen? ⟨w.heap.size + 1, 0, none⟩ = false := by
    rw [World.frozen?_alloc_past _ _ _ (by first | (simp; done) | (simp; omega)), World.frozen?_alloc_past _ _ _ (by first | (simp; done) | (simp; omega))]; exact World.frozen?_alloc_at _ _ _ _ (by simp)
  have f2 : ((((w.alloc (.cells #[.slice a n c] 22)).alloc (.cells #[.slice none 0 0] 23)).alloc (.cells #[.bool false] 4)).alloc (.cells #[.int .i64 0] 27)).frozen? ⟨w.heap.size + 1 + 1, 0, none⟩ = false := by
    rw [World.frozen?_alloc_past _ _ _ (by first | (simp; done) | (simp; omega))]; exact World.frozen?_alloc_at _ _ _ _ (by simp)
  have f3 : ((((w.alloc (.cells #[.slice a n c] 22)).alloc (.cells #[.slice none 0 0] 23)).alloc (.cells #[.bool false] 4)).alloc (.cells #[.int .i64 0] 27)).frozen? ⟨w.heap.size + 1 + 1 + 1, 0, none⟩ = false := World.frozen?_alloc_at _ _ _ _ (by simp)
  refine (callsIn_wide (n := 9)).1 ?_
  refine callsIn_of_wp_marks Try.func43 rfl trivial ?_ rfl
  simp only [Try.ntmps43, List.size_toArray, List.length_cons, List.length_nil, Nat.reduceAdd, Nat.reduceSub, Array.replicate_succ, Array.replicate_zero, List.push_toArray, List.append_toArray, List.nil_append, List.cons_append]
  gi_wp2
  obtain ⟨w4, hw4⟩ : ∃ w4, ((((w.alloc (.cells #[.slice a n c] 22)).alloc (.cells #[.slice none 0 0] 23)).alloc (.cells #[.bool false] 4)).alloc (.cells #[.int .i64 0] 27)) = w4 := ⟨_, rfl⟩
  rw [hw4] at hb4 hsz4 q0 q1 q2 q3 f1 f2 f3
  simp only [hw4]
  have hI4 := h.below hb4 (Nat.le_refl _)
  have hfe := sndFamily_calls m a n c F w4 hI4
  refine ⟨trivial, (callsIn_wide.2 hfe).mono ?_⟩
  rintro e w5 ⟨rfl, q, hq⟩
  have p0 : w5.cell? ⟨w.heap.size, 0, none⟩ = some (.slice a n c) := by rw [hq]; exact q0
  have p1 : w5.cell? ⟨w.heap.size + 1, 0, none⟩ = some (.slice none 0 0) := by rw [hq]; exact q1
  have p2 : w5.cell? ⟨w.heap.size + 1 + 1, 0, none⟩ = some (.bool false) := by rw [hq]; exact q2
  have p3 : w5.cell? ⟨w.heap.size + 1 + 1 + 1, 0, none⟩ = some (.int .i64 0) := by rw [hq]; exact q3
  have g1 : w5.frozen? ⟨w.heap.size + 1, 0, none⟩ = false := by rw [hq]; exact f1
  have g2 : w5.frozen? ⟨w.heap.size + 1 + 1, 0, none⟩ = false := by rw [hq]; exact f2
  have g3 : w5.frozen? ⟨w.heap.size + 1 + 1 + 1, 0, none⟩ = false := by rw [hq]; exact f3
  have Hb5 : Hid (Below w.heap.size w w5) := hid_ (by rw [hq]; exact below_drewN hb4 q)
  have Hs5 : Hid (w5.heap.size = w.heap.size + 4) := hid_ (by rw [hq]; exact hsz4)
  have HI5 : Hid (ListsAt w5 a n c F) := hid_ (by rw [hq]; exact hI4.drewN q)
  clear hq q0 q1 q2 q3 f1 f2 f3 hb4 hsz4 hw4 hI4 hfe
  by_cases he : famErr m F = 0
  · have hm : 1 ≤ m ∧ m ≤ 6 := by
      unfold famErr at he
      cases hw : Within m 1 6 with
      | false => rw [hw] at he; simp at he
      | true => simpa [Within] using hw
    obtain ⟨mn, rfl⟩ := Int.eq_ofNat_of_zero_le (show 0 ≤ m by omega)
    have hm1 : 1 ≤ mn := by omega
    have hm6 : mn ≤ 6 := by omega
    have Hok : Hid (ordOk mn F = (orderRes mn F).isSome) := hid_ (by simp [ordOk, he])
    have Hres : Hid (ordV mn F = (orderRes mn F).getD []) := hid_ (if_pos he)
    have HE := hid_ he
    rw [he]
    clear he hm
    gi_wp2
    refine ⟨trivial, (callsIn_wide.2 (orders_calls mn w5)).mono ?_⟩
    rintro e w6 ⟨rfl, hw6⟩
    have hs6 : w6.heap.size = w.heap.size + 5 := by rw [hw6, size_alloc_one, Hs5.out]
    have k0 : w6.cell? ⟨w.heap.size + 4, 0, none⟩ = some (.int .i64 mn) := by rw [hw6, ← Hs5.out, World.cell?_alloc_at _ _ _ _ rfl]; rfl
    have p0' : w6.cell? ⟨w.heap.size, 0, none⟩ = some (.slice a n c) := by rw [hw6, World.cell?_alloc_past _ _ _ (by rw [Hs5.out]; omega)]; exact p0
    have p1' : w6.cell? ⟨w.heap.size + 1, 0, none⟩ = some (.slice none 0 0) := by rw [hw6, World.cell?_alloc_past _ _ _ (by rw [Hs5.out]; omega)]; exact p1
    have p2' : w6.cell? ⟨w.heap.size + 1 + 1, 0, none⟩ = some (.bool false) := by rw [hw6, World.cell?_alloc_past _ _ _ (by rw [Hs5.out]; omega)]; exact p2
    have p3' : w6.cell? ⟨w.heap.size + 1 + 1 + 1, 0, none⟩ = some (.int .i64 0) := by rw [hw6, World.cell?_alloc_past _ _ _ (by rw [Hs5.out]; omega)]; exact p3
    have g1' : w6.frozen? ⟨w.heap.size + 1, 0, none⟩ = false := by rw [hw6, World.frozen?_alloc_past _ _ _ (by rw [Hs5.out]; omega)]; exact g1
    have g2' : w6.frozen? ⟨w.heap.size + 1 + 1, 0, none⟩ = false := by rw [hw6, World.frozen?_alloc_past _ _ _ (by rw [Hs5.out]; omega)]; exact g2
    have g3' : w6.frozen? ⟨w.heap.size + 1 + 1 + 1, 0, none⟩ = false := by rw [hw6, World.frozen?_alloc_past _ _ _ (by rw [Hs5.out]; omega)]; exact g3
    have Hb6 : Hid (Below w.heap.size w w6) := hid_ (by rw [hw6]; exact Hb5.out.alloc (by rw [Hs5.out]; omega) _)
    have HI6 : Hid (ListsAt w6 a n c F) := hid_ (by rw [hw6]; exact HI5.out.below ((Below.refl w5.heap.size w5).alloc (Nat.le_refl _) _) (Nat.le_refl _))
    rw [Hs5.out]
    clear hw6 p0 p1 p2 p3 g1 g2 g3
    gi_wp2
    have Hs6 := hid_ hs6
    have hS : ∀ i, i < 5 → w.heap.size + i < w6.heap.size := fun i hi => by omega
    clear hs6
    have HS := hid_ hS; clear hS
    have Hfind : Hid (orderRes mn F = (ordersL mn).find? (fitsP F)) := hid_ (by rw [orderRes, Int.toNat_natCast])
    have hO6 : ∀ k, k < (ordersL mn).length → ((ordersL mn).getD k []).length = mn := (chain_at (orders_chain hm1 hm6).1).1
    have HO6 := hid_ hO6; clear hO6
    refine wpIn_rangeFunc_mem (n := 9) rfl (by omega) (gf := 125) (lb := #[.pointer (some ⟨w.heap.size + 4, 0, none⟩)]) rfl trivial (enters_of Try.func125 (by kernel_rfl) rfl) (orders_iter mn (w.heap.size + 4) hm1 hm6 8) rfl
      (fun k A A' h e => World.rowIs.of_block h e)
      (fun k W => (Below w.heap.size w W ∧ Below w6.heap.size w6 W) ∧ ∀ j, j < k → fitsP F ((ordersL mn).getD j []) = false)
      (fun c k W => c = .ret ∧ ∃ v o, ((W.cell? ⟨w.heap.size + 1, 0, none⟩ = some v ∧ W.cell? ⟨w.heap.size + 1 + 1, 0, none⟩ = some (.bool true)) ∧ W.cell? ⟨w.heap.size + 1 + 1 + 1, 0, none⟩ = some (.int .i64 0)) ∧
        (W.ownsRow (w6.heap.size + 3) 3 1 v o.length (o.map (Value.int .i64)) ∧ Below w.heap.size w W) ∧ orderRes mn F = some o)
      ?hIG ?hI ?hIx ⟨⟨Hb6.out, Below.refl _ _⟩, fun j hj => absurd hj (by omega)⟩
      { tmps := #[.int .i64 mn, .slice a n c, undef, .pointer (some ⟨w.heap.size, 0, none⟩), .pointer (some ⟨w.heap.size + 1, 0, none⟩), .pointer (some ⟨w.heap.size + 1 + 1, 0, none⟩), .pointer (some ⟨w.heap.size + 1 + 1 + 1, 0, none⟩), .int .i64 0, .slice (some ⟨w6.heap.size + 2, 0, none⟩) mn mn, .int .i64 mn, .slice a n c, .int .i64 0, .int .i64 0, .bool false, undef, .int .i64 mn, .func (.func 125) #[] #[.pointer (some ⟨w.heap.size + 4, 0, none⟩)], .slice (some ⟨w6.heap.size + 2, 0, none⟩) mn mn, undef, undef, undef, undef, undef], defers := [] }
      ?hassign ?hbody (fun k A h => World.rowIs.lt h) ?hdone ?hstop
    case hIG => exact fun k A hA => (hA.1.2.cell (p := ⟨w.heap.size + 4, 0, none⟩) (HS.out 4 (by omega))).trans k0
    case hI => exact fun k => stays_and (stays_and (stays_below (by have := Hs6.out; omega) (Nat.le_refl _)) (stays_below (Nat.le_refl _) (Nat.le_refl _))) stays_pure
    case hIx =>
      exact fun c k => stays_and stays_pure (stays_ex fun v => stays_ex fun o => stays_and (stays_and (stays_and (stays_cell (HS.out 1 (by omega))) (stays_cell (HS.out 2 (by omega)))) (stays_cell (HS.out 3 (by omega)))) (stays_and (stays_and stays_own (stays_below (by have := Hs6.out; omega) (Nat.le_refl _))) stays_pure))
    case hassign =>
      intro l W K hK
      gi_wp2
      exact hK
    case hbody =>
      rintro l k W ⟨⟨hbw, hb6⟩, hall⟩ hkN hR hBW
      have hn := HO6.out k hkN
      have hII : IntsAt W (some ⟨w6.heap.size + 2, 0, none⟩) mn mn ((ordersL mn).getD k []) := by
        have := RowL.ints hR (by rw [hn]; omega)
        rwa [hn] at this
      have hLL := HI6.out.below hb6 (Nat.le_refl _)
      have z0 := (hb6.cell (p := ⟨w.heap.size, 0, none⟩) (HS.out 0 (by omega))).trans p0'
      have z1 := (hb6.cell (p := ⟨w.heap.size + 1, 0, none⟩) (HS.out 1 (by omega))).trans p1'
      have z2 := (hb6.cell (p := ⟨w.heap.size + 1 + 1, 0, none⟩) (HS.out 2 (by omega))).trans p2'
      have z3 := (hb6.cell (p := ⟨w.heap.size + 1 + 1 + 1, 0, none⟩) (HS.out 3 (by omega))).trans p3'
      have y1 := (hb6.frozen (p := ⟨w.heap.size + 1, 0, none⟩) (HS.out 1 (by omega))).trans g1'
      have y2 := (hb6.frozen (p := ⟨w.heap.size + 1 + 1, 0, none⟩) (HS.out 2 (by omega))).trans g2'
      have y3 := (hb6.frozen (p := ⟨w.heap.size + 1 + 1 + 1, 0, none⟩) (HS.out 3 (by omega))).trans g3'
      have hfc := sndFits_calls _ _ _ _ _ _ _ _ W hLL hII (by omega)
      have hcl := clone_calls _ _ _ _ W hII (by omega)
      generalize hO : (ordersL mn).getD k [] = o at hfc hII hn hR hcl
      have HO := hid_ hO; clear hO
      have Hcl := hid_ hcl; clear hcl
      have Hall := hid_ hall; clear hall
      have HR := hid_ hR; clear hR
      have Hn := hid_ hn; clear hn
      clear p0' p1' p2' p3' g1' g2' g3' k0
      cases hf : fitsP F o with
      | false =>
        rw [hf] at hfc
        have Hfc := hid_ hfc; clear hfc
        have Hf := hid_ hf; clear hf
        have Hnew : Hid (∀ j, j < k + 1 → fitsP F ((ordersL mn).getD j []) = false) := hid_ (lt_snoc Hall.out (by rw [HO.out]; exact Hf.out))
        gi_wp2
        refine ⟨trivial, (CallsIn.inRound l (callsIn_wide.2 Hfc.out)).mono ?_⟩
        rintro e W2 ⟨rfl, rfl⟩
        gi_wp2
        exact ⟨KeepsOthers.refl _, rfl, ⟨hbw, hb6⟩, Hnew.out⟩
      | true =>
        rw [hf] at hfc
        have Hfc := hid_ hfc; clear hfc
        have Hf := hid_ hf; clear hf
        have Hres2 : Hid (orderRes mn F = some o) := hid_ (by rw [Hfind.out, find_some Hall.out hkN (by rw [HO.out]; exact Hf.out), HO.out])
        gi_wp2
        refine ⟨trivial, (CallsIn.inRound l (callsIn_wide.2 Hfc.out)).mono ?_⟩
        rintro e W2 ⟨rfl, rfl⟩
        gi_wp2
        refine ⟨trivial, (CallsIn.inRound l (callsIn_wide.2 Hcl.out)).mono ?_⟩
        rintro e W3 ⟨v, rfl, hmade⟩
        obtain ⟨a7, c7, hv7, -⟩ := hmade.at_
        subst hv7
        have Hown := hid_ hmade.own
        have hb7 := hmade.bel
        clear hmade
        have hWs : w6.heap.size + 2 < W.heap.size := hBW
        have hWw : w.heap.size + 5 < W.heap.size := by have := Hs6.out; omega
        have x1 := (hb7.cell (p := ⟨w.heap.size + 1, 0, none⟩) (by show w.heap.size + 1 < _; omega)).trans z1
        have x2 := (hb7.cell (p := ⟨w.heap.size + 1 + 1, 0, none⟩) (by show w.heap.size + 1 + 1 < _; omega)).trans z2
        have x3 := (hb7.cell (p := ⟨w.heap.size + 1 + 1 + 1, 0, none⟩) (by show w.heap.size + 1 + 1 + 1 < _; omega)).trans z3
        have v1 := (hb7.frozen (p := ⟨w.heap.size + 1, 0, none⟩) (by show w.heap.size + 1 < _; omega)).trans y1
        have v2 := (hb7.frozen (p := ⟨w.heap.size + 1 + 1, 0, none⟩) (by show w.heap.size + 1 + 1 < _; omega)).trans y2
        have v3 := (hb7.frozen (p := ⟨w.heap.size + 1 + 1 + 1, 0, none⟩) (by show w.heap.size + 1 + 1 + 1 < _; omega)).trans y3
        have Hko : Hid (KeepsOthers W W3) := hid_ ⟨hb7.size, fun j o ho _ => by rw [hb7.block j (Array.getElem?_eq_some_iff.1 ho).1]; exact ho⟩
        have Hbw3 : Hid (Below w.heap.size w W3) := hid_ (hbw.trans (hb7.mono (by omega)))
        clear z0 z1 z2 z3 y1 y2 y3 hb7
        gi_wp2
        refine ⟨((Hko.out.trans (KeepsOthers.setCell _ _ _)).trans (KeepsOthers.setCell _ _ _)).trans (KeepsOthers.setCell _ _ _), rfl, .slice a7 o.length c7, o, ⟨⟨?_, ?_⟩, ?_⟩, ⟨?_, ?_⟩, Hres2.out⟩
        · rw [World.cell?_setCell_other _ _ _ _ (by simp), World.cell?_setCell_other _ _ _ _ (by simp), World.cell?_setCell_same _ _ _ x1]
        · rw [World.cell?_setCell_other _ _ _ _ (by simp), World.cell?_setCell_same _ _ _ (by rw [World.cell?_setCell_other _ _ _ _ (by simp)]; exact x2)]
        · rw [World.cell?_setCell_same _ _ _ (by rw [World.cell?_setCell_other _ _ _ _ (by simp), World.cell?_setCell_other _ _ _ _ (by simp)]; exact x3)]
        · exact ownsRow_setCell_below (ownsRow_setCell_below (ownsRow_setCell_below (own_base Hown.out (by omega)) (by show w.heap.size + 1 < _; have := Hs6.out; omega) _) (by show w.heap.size + 1 + 1 < _; have := Hs6.out; omega) _) (by show w.heap.size + 1 + 1 + 1 < _; have := Hs6.out; omega) _
        · exact ((Hbw3.out.setCell (p := ⟨w.heap.size + 1, 0, none⟩) (by show _ ≤ _ + 1; omega) _).setCell (p := ⟨w.heap.size + 1 + 1, 0, none⟩) (by show _ ≤ _ + 1 + 1; omega) _).setCell (p := ⟨w.heap.size + 1 + 1 + 1, 0, none⟩) (by show _ ≤ _ + 1 + 1 + 1; omega) _
    case hdone =>
      rintro D W hD ⟨⟨hbw, hb6⟩, hall⟩ hK
      have Hnone : Hid (orderRes mn F = none) := hid_ (by rw [Hfind.out]; exact find_none hall)
      have z1 := (hb6.cell (p := ⟨w.heap.size + 1, 0, none⟩) (HS.out 1 (by omega))).trans p1'
      have z2 := (hb6.cell (p := ⟨w.heap.size + 1 + 1, 0, none⟩) (HS.out 2 (by omega))).trans p2'
      have z3 := (hb6.cell (p := ⟨w.heap.size + 1 + 1 + 1, 0, none⟩) (HS.out 3 (by omega))).trans p3'
      have y1 := (hb6.frozen (p := ⟨w.heap.size + 1, 0, none⟩) (HS.out 1 (by omega))).trans g1'
      have y2 := (hb6.frozen (p := ⟨w.heap.size + 1 + 1, 0, none⟩) (HS.out 2 (by omega))).trans g2'
      have y3 := (hb6.frozen (p := ⟨w.heap.size + 1 + 1 + 1, 0, none⟩) (HS.out 3 (by omega))).trans g3'
      clear p0' p1' p2' p3' g1' g2' g3' k0 hall
      gi_wp2
      obtain ⟨W1, hW1⟩ : ∃ W1, (((W.setCell ⟨w.heap.size + 1, 0, none⟩ (.slice none 0 0)).setCell ⟨w.heap.size + 1 + 1, 0, none⟩ (.bool false)).setCell ⟨w.heap.size + 1 + 1 + 1, 0, none⟩ (.int .i64 0)) = W1 := ⟨_, rfl⟩
      have r1 : W1.cell? ⟨w.heap.size + 1, 0, none⟩ = some (.slice none 0 0) := by
        rw [← hW1, World.cell?_setCell_other _ _ _ _ (by simp), World.cell?_setCell_other _ _ _ _ (by simp), World.cell?_setCell_same _ _ _ z1]
      have r2 : W1.cell? ⟨w.heap.size + 1 + 1, 0, none⟩ = some (.bool false) := by
        rw [← hW1, World.cell?_setCell_other _ _ _ _ (by simp), World.cell?_setCell_same _ _ _ (by rw [World.cell?_setCell_other _ _ _ _ (by simp)]; exact z2)]
      have r3 : W1.cell? ⟨w.heap.size + 1 + 1 + 1, 0, none⟩ = some (.int .i64 0) := by
        rw [← hW1, World.cell?_setCell_same _ _ _ (by rw [World.cell?_setCell_other _ _ _ _ (by simp), World.cell?_setCell_other _ _ _ _ (by simp)]; exact z3)]
      have hK1 : W1.heap[D]? = some (.deferred (some [])) := by
        rw [← hW1]; exact (((KeepsOthers.setCell _ _ _).trans (KeepsOthers.setCell _ _ _)).trans (KeepsOthers.setCell _ _ _)).same D _ hK rfl
      have hb1 : Below w.heap.size w W1 := by
        rw [← hW1]; exact ((hbw.setCell (p := ⟨w.heap.size + 1, 0, none⟩) (by show _ ≤ _ + 1; omega) _).setCell (p := ⟨w.heap.size + 1 + 1, 0, none⟩) (by show _ ≤ _ + 1 + 1; omega) _).setCell (p := ⟨w.heap.size + 1 + 1 + 1, 0, none⟩) (by show _ ≤ _ + 1 + 1 + 1; omega) _
      rw [hW1]
      clear hW1
      have hDr : ∀ r, some D = some r → ∃ o : Obj, W1.heap[r]? = some o ∧ o.isCells = false := fun r e => by cases e; exact ⟨_, hK1, rfl⟩
      have s1 := cell_kept r1 (grownBy_putObj' W1 D (.deferred none)) hDr
      have s2 := cell_kept r2 (grownBy_putObj' W1 D (.deferred none)) hDr
      have s3 := cell_kept r3 (grownBy_putObj' W1 D (.deferred none)) hDr
      have hb2 : Below w.heap.size w (W1.putObj D (.deferred none)) := hb1.grown (grownBy_putObj' W1 D (.deferred none)) hb1.size fun r e => by cases e; have := Hs6.out; omega
      refine ⟨by simp, .inl ⟨_, _, rfl, run_takeDeferred hK1, ?_⟩⟩
      refine ⟨.tuple #[.slice none 0 0, .bool false, .int .i64 0], by simp [results, Try.results43, go_sem, s1, s2, s3], ?_⟩
      exact ⟨.slice none 0 0, by rw [HE.out, Hok.out, Hnone.out]; rfl, by rw [Hres.out, Hnone.out]; exact Made.none_ 3 hb2⟩
    case hstop =>
      rintro D c k W hD hkN ⟨rfl, v, o, ⟨⟨x1, x2⟩, x3⟩, ⟨hown, hbw⟩, hres2⟩ hK
      clear p0' p1' p2' p3' g1' g2' g3' k0
      gi_wp2
      have hDr : ∀ r, some D = some r → ∃ o : Obj, W.heap[r]? = some o ∧ o.isCells = false := fun r e => by cases e; exact ⟨_, hK, rfl⟩
      have s1 := cell_kept x1 (grownBy_putObj' W D (.deferred none)) hDr
      have s2 := cell_kept x2 (grownBy_putObj' W D (.deferred none)) hDr
      have s3 := cell_kept x3 (grownBy_putObj' W D (.deferred none)) hDr
      have hb2 : Below w.heap.size w (W.putObj D (.deferred none)) := hbw.grown (grownBy_putObj' W D (.deferred none)) hbw.size fun r e => by cases e; have := Hs6.out; omega
      have hown2 : (W.putObj D (.deferred none)).ownsRow (w6.heap.size + 3) 3 1 v o.length (o.map (Value.int .i64)) :=
        stays_own (D := w6.heap.size) W _ (some D) hown (grownBy_putObj' W D (.deferred none)) fun r e => by cases e; exact ⟨by omega, .inr ⟨_, hK, rfl⟩⟩
      refine ⟨by simp, .inl ⟨_, _, rfl, run_takeDeferred hK, ?_⟩⟩
      refine ⟨.tuple #[v, .bool true, .int .i64 0], by simp [results, Try.results43, go_sem, s1, s2, s3], ?_⟩
      exact ⟨v, by rw [HE.out, Hok.out, hres2]; rfl, by rw [Hres.out, hres2]; exact ⟨own_base hown2 (by have := Hs6.out; omega), hb2⟩⟩
  · have hqe : (famErr m F != 0) = true := by simpa using he
    have Hok : Hid (ordOk m F = false) := hid_ (by simp [ordOk, he])
    have Hres : Hid (ordV m F = []) := hid_ (if_neg he)
    generalize hE : famErr m F = er at hqe
    have HE := hid_ hE; clear hE he
    gi_wp2
    obtain ⟨w6, hw6⟩ : ∃ w6, (((w5.setCell ⟨w.heap.size + 1, 0, none⟩ (.slice none 0 0)).setCell ⟨w.heap.size + 1 + 1, 0, none⟩ (.bool false)).setCell ⟨w.heap.size + 1 + 1 + 1, 0, none⟩ (.int .i64 er)) = w6 := ⟨_, rfl⟩
    have r1 : w6.cell? ⟨w.heap.size + 1, 0, none⟩ = some (.slice none 0 0) := by
      rw [← hw6, World.cell?_setCell_other _ _ _ _ (by simp), World.cell?_setCell_other _ _ _ _ (by simp), World.cell?_setCell_same _ _ _ p1]
    have r2 : w6.cell? ⟨w.heap.size + 1 + 1, 0, none⟩ = some (.bool false) := by
      rw [← hw6, World.cell?_setCell_other _ _ _ _ (by simp), World.cell?_setCell_same _ _ _ (by rw [World.cell?_setCell_other _ _ _ _ (by simp)]; exact p2)]
    have r3 : w6.cell? ⟨w.heap.size + 1 + 1 + 1, 0, none⟩ = some (.int .i64 er) := by
      rw [← hw6, World.cell?_setCell_same _ _ _ (by rw [World.cell?_setCell_other _ _ _ _ (by simp), World.cell?_setCell_other _ _ _ _ (by simp)]; exact p3)]
    have hb6 : Below w.heap.size w w6 := by
      rw [← hw6]; exact ((Hb5.out.setCell (p := ⟨w.heap.size + 1, 0, none⟩) (by show _ ≤ _ + 1; omega) _).setCell (p := ⟨w.heap.size + 1 + 1, 0, none⟩) (by show _ ≤ _ + 1 + 1; omega) _).setCell (p := ⟨w.heap.size + 1 + 1 + 1, 0, none⟩) (by show _ ≤ _ + 1 + 1 + 1; omega) _
    rw [hw6]
    clear hw6
    refine ⟨.tuple #[.slice none 0 0, .bool false, .int .i64 er], by simp [results, Try.results43, go_sem, r1, r2, r3], ?_⟩
    exact ⟨.slice none 0 0, by rw [HE.out, Hok.out], by rw [Hres.out]; exact Made.none_ 3 hb6⟩
end Go.Proofs.Ytoopgmoopmbfnaa
