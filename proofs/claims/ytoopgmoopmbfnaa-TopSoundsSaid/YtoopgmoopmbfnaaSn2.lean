import Derived.Test.YtoopgmoopmbfnaaSn1
import Derived.Test.YtoopgmoopmbfnaaShelf
import Derived.Sort.OwnSortedInts
import Derived.StillTailTactics
import Derived.Shelf.SlSortCmp.WholeK
import Derived.Shelf.SlSortCmp.NoneTotal
namespace Go.Proofs.Ytoopgmoopmbfnaa
open Go.RowKit Go.Proofs.Kv Go.Proofs.Snd
attribute [local go_sem] Oper.semAt_some

/-! ### fits, Clone -/
def fitP (o s : List Int) : Bool := (spanL o s).2 - (spanL o s).1 == (s.length : Int)
def fitsP (F : List (List Int)) (o : List Int) : Bool := F.all (fitP o)
theorem spanL_bd (o s : List Int) : -1 ≤ (spanL o s).1 ∧ (spanL o s).1 ≤ o.length ∧ 0 ≤ (spanL o s).2 ∧ (spanL o s).2 ≤ o.length + 1 := by
  have h := ends_bd o s
  unfold spanL sp1
  simp only
  split <;> omega
set_option maxRecDepth 100000 in
theorem sndFits_calls (a : Option Addr) (n c : Nat) (F : List (List Int)) (a' : Option Addr) (n' c' : Nat) (o : List Int) (w : World) (h : ListsAt w a n c F) (h' : IntsAt w a' n' c' o) (hs : n' ≤ 1000000) :
    Calls Try.prog 50 #[.slice a n c, .slice a' n' c'] w fun e w' => e = .returned (.bool (fitsP F o)) ∧ w = w' := by
  have hn : n ≤ 9223372036854775807 := Nat.le_trans h.le h.small
  go_enter Try.func50, Try.ntmps50
  go_wp2
  go_loop [11] (fun i => ∃ k : Nat, k ≤ n ∧ i = .int .i64 k ∧ ∀ j, j < k → fitP o (F.getD j []) = true) (fun i => n - (intOf i).toNat)
  case atStart => exact ⟨0, Nat.zero_le _, rfl, fun _ h => absurd h (by omega)⟩
  case round =>
    obtain ⟨k, hk, rfl, hall⟩ := hrel
    have Hall := hid_ hall; clear hall
    by_cases hlt : k < n
    · obtain ⟨b, off, a1, n1, c1, rfl, hb, hcell, hrow⟩ := h.cells k hlt
      have hl : k < F.length := by rw [h.len]; exact hlt
      generalize hr : F.getD k [] = r at hrow
      have Hr := hid_ hr; clear hr
      have hbd := spanL_bd o r
      rw [h'.len] at hbd
      have Hone : Hid (fitP o r = ((spanL o r).2 - (spanL o r).1 == (n1 : Int))) := hid_ (by rw [fitP, hrow.len])
      have hec := span_calls _ _ _ _ _ _ _ _ w hrow h'
      generalize spanL o r = p at hec hbd Hone
      obtain ⟨f, l⟩ := p
      simp only at hbd hec
      obtain ⟨b1, b2, b3, b4⟩ := hbd
      have Hec := hid_ hec; clear hec
      cases hq : (l - f == (n1 : Int)) with
      | true =>
        have hq' : (l - f != (n1 : Int)) = false := by rw [bne, hq]; rfl
        have Hf : Hid (fitP o r = true) := hid_ (by rw [Hone.out]; exact hq)
        clear Hone hq
        go_wp2_with (go_at_call 100; refine Hec.out.mono ?_; rintro e w' ⟨rfl, rfl⟩)
        go_round
        case rel => exact ⟨k + 1, by omega, by go_num, lt_snoc Hall.out (by rw [Hr.out]; exact Hf.out)⟩
        case measure => simp [intOf]; omega
      | false =>
        have hq' : (l - f != (n1 : Int)) = true := by rw [bne, hq]; rfl
        have Hf : Hid (fitsP F o = false) := hid_ (all_no hl (by rw [Hr.out, Hone.out]; exact hq))
        clear Hone hq
        go_wp2_with (go_at_call 100; refine Hec.out.mono ?_; rintro e w' ⟨rfl, rfl⟩)
        go_ret
        exact ⟨retB Hf.out, rfl⟩
    · have Hf : Hid (fitsP F o = true) := hid_ (all_yes h.len fun j hj => Hall.out j (by omega))
      go_wp2
      go_ret
      exact ⟨retB Hf.out, rfl⟩

set_option maxRecDepth 100000 in
theorem clone_calls (a : Option Addr) (n c : Nat) (l : List Int) (w : World) (h : IntsAt w a n c l) (hs : n ≤ 100000) :
    Calls Try.prog 91 #[.slice a n c] w fun e w' => ∃ v, e = .returned v ∧ Made 3 w w' v l := by
  obtain ⟨i0, hi0, hz0, hz1, hz2⟩ := info_parts Try.infoInt
  cases a with
  | none =>
    have hn : n = 0 := by
      rcases Nat.eq_zero_or_pos n with h0 | h0
      · exact h0
      · obtain ⟨_, _, h1, _⟩ := h.cells 0 h0; cases h1
    subst hn
    have Hl : Hid (l = []) := hid_ (List.eq_nil_of_length_eq_zero h.len)
    have heq : ∀ W, (binOp .eql 23 (.slice none 0 c) (.slice none 0 0)).run Try.prog W = .ok (.bool true) W := fun W => Lib.run_eql_slice_nil W _ _ none 0 c 0 0 Try.underlying23
    go_enter Try.func91, Try.ntmps91
    go_wp2
    go_ret
    exact ⟨_, rfl, by rw [Hl.out]; exact Made.none_ _ (Below.refl _ _)⟩
  | some x =>
    have heq : ∀ W, (binOp .eql 23 (.slice (some x) n c) (.slice none 0 0)).run Try.prog W = .ok (.bool false) W := fun W => Lib.run_eql_slice_nil W _ _ (some x) n c 0 0 Try.underlying23
    have hown : (w.alloc (.cells #[] 3)).ownsRow w.heap.size 3 1 (.slice (some ⟨w.heap.size, 0, none⟩) 0 0) 0 (([] : List Int).map (Value.int .i64)) := World.ownsRow_made w #[] 0 (Nat.le_refl _) (by omega) rfl
    have hI := h.below ((Below.refl _ w).alloc (Nat.le_refl _) (.cells #[] 3)) (Nat.le_refl _)
    have hlen : Hid (l.length = n) := hid_ h.len
    go_enter Try.func91, Try.ntmps91
    go_wp2_with (at_builtin; refine wpList_append_ints _ rfl (.tmp 5) (.tmp 6) _ rfl w.heap.size 3 i0 Try.underlying23 hi0 hz0 hz1 hz2 _ _ _ rfl hown _ _ _ _ rfl hI (by omega) (by simp) ?_; intro v' w1 hown1 hg1 hat1)
    go_ret
    refine ⟨_, rfl, ⟨?_, ((Below.refl _ w).alloc (Nat.le_refl _) (.cells #[] 3)).grown hg1 (by simp) fun k hk => ?_⟩⟩
    · rw [Nat.zero_add, List.nil_append] at hown1
      rw [hlen.out]; exact hown1
    · have : some w.heap.size = some k := hk
      injection this with this
      omega

/-! ### Order -/
theorem stays_cell {D : Nat} {p : Addr} {v : Value} (hp : p.block < D) : Stays (D + 2) fun W => W.cell? p = some v := fun _ _ _ h hg hr =>
  hg.cell h fun e => by have := (hr _ e.symm).1; omega
theorem stays_below {D B0 : Nat} {W0 : World} (hB : B0 ≤ D) (h0 : B0 ≤ W0.heap.size) : Stays (D + 2) fun W => Below B0 W0 W := fun _ _ _ h hg hr =>
  h.grown hg (Nat.le_trans h0 h.size) fun r e => by have := (hr r e).1; omega
theorem stays_own {D E n : Nat} {v : Value} {xs : List Value} : Stays (D + 2) fun W => W.ownsRow (D + 3) E 1 v n xs := fun A A' row h hg hr => by
  refine World.ownsRow.kept h hg ?_
  by_cases hv : v.ownBlock = none
  · exact .inl hv
  · refine .inr fun e => ?_
    obtain ⟨r, hr'⟩ := Option.ne_none_iff_exists'.1 hv
    have h1 := (h.lt r hr').1
    rw [hr'] at e
    rcases (hr r e.symm).2 with h2 | ⟨o, ho, hc⟩
    · omega
    · rcases h.2 with ⟨rfl, _⟩ | ⟨g, cap, cur, rfl, _, hg', _⟩
      · simp [Value.ownBlock] at hr'
      · have : g = r := by simpa [Value.ownBlock] using hr'
        subst this
        rw [hg'] at ho
        injection ho with ho
        subst ho
        simp [Obj.isCells] at hc
theorem stays_and {B : Nat} {I J : World → Prop} (h : Stays B I) (k : Stays B J) : Stays B fun W => I W ∧ J W := fun A A' row hs hg hr => ⟨h A A' row hs.1 hg hr, k A A' row hs.2 hg hr⟩
theorem stays_pure {B : Nat} {p : Prop} : Stays B fun _ => p := fun _ _ _ h _ _ => h
theorem stays_ex {B : Nat} {α : Type} {I : α → World → Prop} (h : ∀ a, Stays B (I a)) : Stays B fun W => ∃ a, I a W := fun A A' row ⟨a, hs⟩ hg hr => ⟨a, h a A A' row hs hg hr⟩

theorem orders_calls (m : Int) (w : World) :
    Calls Try.prog 90 #[.int .i64 m] w fun e w' => e = .returned (.func (.func 125) #[] #[.pointer (some ⟨w.heap.size, 0, none⟩)]) ∧ w' = w.alloc (.cells #[.int .i64 m] 3) := by
  go_enter Try.func90, Try.ntmps90
  go_wp2
  go_ret
  exact ⟨rfl, rfl⟩

theorem find_some {p : List Int → Bool} : ∀ {O : List (List Int)} {k : Nat}, (∀ j, j < k → p (O.getD j []) = false) → k < O.length → p (O.getD k []) = true → O.find? p = some (O.getD k [])
  | [], k, _, hk, _ => absurd hk (by simp)
  | x :: O, 0, _, _, hp => by simp [List.getD] at hp; simp [List.find?, hp, List.getD]
  | x :: O, k + 1, h, hk, hp => by
    have h0 := h 0 (by omega)
    simp [List.getD] at h0
    rw [List.find?_cons, h0]
    have := find_some (p := p) (O := O) (k := k) (fun j hj => by simpa [List.getD] using h (j + 1) (by omega)) (by simpa using hk) (by simpa [List.getD] using hp)
    simpa [List.getD] using this
theorem find_none {p : List Int → Bool} {O : List (List Int)} (h : ∀ j, j < O.length → p (O.getD j []) = false) : O.find? p = none := by
  rw [List.find?_eq_none]
  intro x hx
  obtain ⟨i, hi, e⟩ := List.mem_iff_getElem.1 hx
  have := h i hi
  rw [List.getD, List.getElem?_eq_getElem hi, Option.getD_some, e] at this
  rw [this]; simp
def orderRes (m : Int) (F : List (List Int)) : Option (List Int) := (ordersL m.toNat).find? (fitsP F)
def ordOk (m : Int) (F : List (List Int)) : Bool := decide (famErr m F = 0) && (orderRes m F).isSome
def ordV (m : Int) (F : List (List Int)) : List Int := if famErr m F = 0 then (orderRes m F).getD [] else []
set_option maxRecDepth 100000 in
set_option maxHeartbeats 1000000 in
theorem sndOrder_calls (m : Int) (a : Option Addr) (n c : Nat) (F : List (List Int)) (w : World) (h : ListsAt w a n c F) :
    Calls Try.prog 43 #[.int .i64 m, .slice a n c] w fun e w' => ∃ v, e = .returned (.tuple #[v, .bool (ordOk m F), .int .i64 (famErr m F)]) ∧ Made 3 w w' v (ordV m F) := by
  have hb4 : Below w.heap.size w ((((w.alloc (.cells #[.slice a n c] 22)).alloc (.cells #[.slice none 0 0] 23)).alloc (.cells #[.bool false] 4)).alloc (.cells #[.int .i64 0] 27)) :=
    (((((Below.refl _ w).alloc (Nat.le_refl _) _).alloc (by simp) _).alloc (by first | (simp; done) | (simp; omega)) _).alloc (by first | (simp; done) | (simp; omega)) _)
  have hsz4 : ((((w.alloc (.cells #[.slice a n c] 22)).alloc (.cells #[.slice none 0 0] 23)).alloc (.cells #[.bool false] 4)).alloc (.cells #[.int .i64 0] 27)).heap.size = w.heap.size + 4 := by simp
  have q0 : ((((w.alloc (.cells #[.slice a n c] 22)).alloc (.cells #[.slice none 0 0] 23)).alloc (.cells #[.bool false] 4)).alloc (.cells #[.int .i64 0] 27)).cell? ⟨w.heap.size, 0, none⟩ = some (.slice a n c) := by
    rw [World.cell?_alloc_past _ _ _ (by first | (simp; done) | (simp; omega)), World.cell?_alloc_past _ _ _ (by first | (simp; done) | (simp; omega)), World.cell?_alloc_past _ _ _ (by simp), World.cell?_alloc_at _ _ _ _ (by rfl)]; rfl
  have q1 : ((((w.alloc (.cells #[.slice a n c] 22)).alloc (.cells #[.slice none 0 0] 23)).alloc (.cells #[.bool false] 4)).alloc (.cells #[.int .i64 0] 27)).cell? ⟨w.heap.size + 1, 0, none⟩ = some (.slice none 0 0) := by
    rw [World.cell?_alloc_past _ _ _ (by first | (simp; done) | (simp; omega)), World.cell?_alloc_past _ _ _ (by first | (simp; done) | (simp; omega)), World.cell?_alloc_at _ _ _ _ (by simp)]; rfl
  have q2 : ((((w.alloc (.cells #[.slice a n c] 22)).alloc (.cells #[.slice none 0 0] 23)).alloc (.cells #[.bool false] 4)).alloc (.cells #[.int .i64 0] 27)).cell? ⟨w.heap.size + 1 + 1, 0, none⟩ = some (.bool false) := by
    rw [World.cell?_alloc_past _ _ _ (by first | (simp; done) | (simp; omega)), World.cell?_alloc_at _ _ _ _ (by simp)]; rfl
  have q3 : ((((w.alloc (.cells #[.slice a n c] 22)).alloc (.cells #[.slice none 0 0] 23)).alloc (.cells #[.bool false] 4)).alloc (.cells #[.int .i64 0] 27)).cell? ⟨w.heap.size + 1 + 1 + 1, 0, none⟩ = some (.int .i64 0) := by
    rw [World.cell?_alloc_at _ _ _ _ (by simp)]; rfl
  have f1 : ((((w.alloc (.cells #[.slice a n c] 22)).alloc (.cells #[.slice none 0 0] 23)).alloc (.cells #[.bool false] 4)).alloc (.cells #[.int .i64 0] 27)).frozen? ⟨w.heap.size + 1, 0, none⟩ = false := by
    rw [World.frozen?_alloc_past _ _ _ (by first | (simp; done) | (simp; omega)), World.frozen?_alloc_past _ _ _ (by first | (simp; done) | (simp; omega))]; exact World.frozen?_alloc_at _ _ _ _ (by simp)
  have f2 : ((((w.alloc (.cells #[.slice a n c] 22)).alloc (.cells #[.slice none 0 0] 23)).alloc (.cells #[.bool false] 4)).alloc (.cells #[.int .i64 0] 27)).frozen? ⟨w.heap.size + 1 + 1, 0, none⟩ = false := by
    rw [World.frozen?_alloc_past _ _ _ (by first | (simp; done) | (simp; omega))]; exact World.frozen?_alloc_at _ _ _ _ (by simp)
  have f3 : ((((w.alloc (.cells #[.slice a n c] 22)).alloc (.cells #[.slice none 0 0] 23)).alloc (.cells #[.bool false] 4)).alloc (.cells #[.int .i64 0] 27)).frozen? ⟨w.heap.size + 1 + 1 + 1, 0, none⟩ = false := World.frozen?_alloc_at _ _ _ _ (by simp)
  refine (callsIn_wide (n := 9)).1 ?_
  refine callsIn_of_wp_marks Try.func43 rfl trivial ?_ rfl
  simp only [Try.ntmps43, List.size_toArray, List.length_cons, List.length_nil, Nat.reduceAdd, Nat.reduceSub, Array.replicate_succ, Array.replicate_zero, List.push_toArray, List.append_toArray, List.nil_append, List.cons_append]
  gi_wp2
  obtain ⟨w4, hw4⟩ : ∃ w4, ((((w.alloc (.cells #[.slice a n c] 22)).alloc (.cells #[.slice none 0 0] 23)).alloc (.cells #[.bool false] 4)).alloc (.cells #[.int .i64 0] 27)) = w4 := ⟨_, rfl⟩
  rw [hw4] at hb4 hsz4 q0 q1 q2 q3 f1 f2 f3
  simp only [hw4]
  have hI4 := h.below hb4 (Nat.le_refl _)
  have hfe := sndFamily_calls m a n c F w4 hI4
  refine ⟨trivial, (callsIn_wide.2 hfe).mono ?_⟩
  rintro e w5 ⟨rfl, q, hq⟩
  have p0 : w5.cell? ⟨w.heap.size, 0, none⟩ = some (.slice a n c) := by rw [hq]; exact q0
  have p1 : w5.cell? ⟨w.heap.size + 1, 0, none⟩ = some (.slice none 0 0) := by rw [hq]; exact q1
  have p2 : w5.cell? ⟨w.heap.size + 1 + 1, 0, none⟩ = some (.bool false) := by rw [hq]; exact q2
  have p3 : w5.cell? ⟨w.heap.size + 1 + 1 + 1, 0, none⟩ = some (.int .i64 0) := by rw [hq]; exact q3
  have g1 : w5.frozen? ⟨w.heap.size + 1, 0, none⟩ = false := by rw [hq]; exact f1
  have g2 : w5.frozen? ⟨w.heap.size + 1 + 1, 0, none⟩ = false := by rw [hq]; exact f2
  have g3 : w5.frozen? ⟨w.heap.size + 1 + 1 + 1, 0, none⟩ = false := by rw [hq]; exact f3
  have Hb5 : Hid (Below w.heap.size w w5) := hid_ (by rw [hq]; exact below_drewN hb4 q)
  have Hs5 : Hid (w5.heap.size = w.heap.size + 4) := hid_ (by rw [hq]; exact hsz4)
  have HI5 : Hid (ListsAt w5 a n c F) := hid_ (by rw [hq]; exact hI4.drewN q)
  clear hq q0 q1 q2 q3 f1 f2 f3 hb4 hsz4 hw4 hI4 hfe
  by_cases he : famErr m F = 0
  · have hm : 1 ≤ m ∧ m ≤ 6 := by
      unfold famErr at he
      cases hw : Within m 1 6 with
      | false => rw [hw] at he; simp at he
      | true => simpa [Within] using hw
    obtain ⟨mn, rfl⟩ := Int.eq_ofNat_of_zero_le (show 0 ≤ m by omega)
    have hm1 : 1 ≤ mn := by omega
    have hm6 : mn ≤ 6 := by omega
    have Hok : Hid (ordOk mn F = (orderRes mn F).isSome) := hid_ (by simp [ordOk, he])
    have Hres : Hid (ordV mn F = (orderRes mn F).getD []) := hid_ (if_pos he)
    have HE := hid_ he
    rw [he]
    clear he hm
    gi_wp2
    refine ⟨trivial, (callsIn_wide.2 (orders_calls mn w5)).mono ?_⟩
    rintro e w6 ⟨rfl, hw6⟩
    have hs6 : w6.heap.size = w.heap.size + 5 := by rw [hw6, size_alloc_one, Hs5.out]
    have k0 : w6.cell? ⟨w.heap.size + 4, 0, none⟩ = some (.int .i64 mn) := by rw [hw6, ← Hs5.out, World.cell?_alloc_at _ _ _ _ rfl]; rfl
    have p0' : w6.cell? ⟨w.heap.size, 0, none⟩ = some (.slice a n c) := by rw [hw6, World.cell?_alloc_past _ _ _ (by rw [Hs5.out]; omega)]; exact p0
    have p1' : w6.cell? ⟨w.heap.size + 1, 0, none⟩ = some (.slice none 0 0) := by rw [hw6, World.cell?_alloc_past _ _ _ (by rw [Hs5.out]; omega)]; exact p1
    have p2' : w6.cell? ⟨w.heap.size + 1 + 1, 0, none⟩ = some (.bool false) := by rw [hw6, World.cell?_alloc_past _ _ _ (by rw [Hs5.out]; omega)]; exact p2
    have p3' : w6.cell? ⟨w.heap.size + 1 + 1 + 1, 0, none⟩ = some (.int .i64 0) := by rw [hw6, World.cell?_alloc_past _ _ _ (by rw [Hs5.out]; omega)]; exact p3
    have g1' : w6.frozen? ⟨w.heap.size + 1, 0, none⟩ = false := by rw [hw6, World.frozen?_alloc_past _ _ _ (by rw [Hs5.out]; omega)]; exact g1
    have g2' : w6.frozen? ⟨w.heap.size + 1 + 1, 0, none⟩ = false := by rw [hw6, World.frozen?_alloc_past _ _ _ (by rw [Hs5.out]; omega)]; exact g2
    have g3' : w6.frozen? ⟨w.heap.size + 1 + 1 + 1, 0, none⟩ = false := by rw [hw6, World.frozen?_alloc_past _ _ _ (by rw [Hs5.out]; omega)]; exact g3
    have Hb6 : Hid (Below w.heap.size w w6) := hid_ (by rw [hw6]; exact Hb5.out.alloc (by rw [Hs5.out]; omega) _)
    have HI6 : Hid (ListsAt w6 a n c F) := hid_ (by rw [hw6]; exact HI5.out.below ((Below.refl w5.heap.size w5).alloc (Nat.le_refl _) _) (Nat.le_refl _))
    rw [Hs5.out]
    clear hw6 p0 p1 p2 p3 g1 g2 g3
    gi_wp2
    have Hs6 := hid_ hs6
    have hS : ∀ i, i < 5 → w.heap.size + i < w6.heap.size := fun i hi => by omega
    clear hs6
    have HS := hid_ hS; clear hS
    have Hfind : Hid (orderRes mn F = (ordersL mn).find? (fitsP F)) := hid_ (by rw [orderRes, Int.toNat_natCast])
    have hO6 : ∀ k, k < (ordersL mn).length → ((ordersL mn).getD k []).length = mn := (chain_at (orders_chain hm1 hm6).1).1
    have HO6 := hid_ hO6; clear hO6
    refine wpIn_rangeFunc_mem (n := 9) rfl (by omega) (gf := 125) (lb := #[.pointer (some ⟨w.heap.size + 4, 0, none⟩)]) rfl trivial (enters_of Try.func125 (by kernel_rfl) rfl) (orders_iter mn (w.heap.size + 4) hm1 hm6 8) rfl
      (fun k A A' h e => World.rowIs.of_block h e)
      (fun k W => (Below w.heap.size w W ∧ Below w6.heap.size w6 W) ∧ ∀ j, j < k → fitsP F ((ordersL mn).getD j []) = false)
      (fun c k W => c = .ret ∧ ∃ v o, ((W.cell? ⟨w.heap.size + 1, 0, none⟩ = some v ∧ W.cell? ⟨w.heap.size + 1 + 1, 0, none⟩ = some (.bool true)) ∧ W.cell? ⟨w.heap.size + 1 + 1 + 1, 0, none⟩ = some (.int .i64 0)) ∧
        (W.ownsRow (w6.heap.size + 3) 3 1 v o.length (o.map (Value.int .i64)) ∧ Below w.heap.size w W) ∧ orderRes mn F = some o)
      ?hIG ?hI ?hIx ⟨⟨Hb6.out, Below.refl _ _⟩, fun j hj => absurd hj (by omega)⟩
      { tmps := #[.int .i64 mn, .slice a n c, undef, .pointer (some ⟨w.heap.size, 0, none⟩), .pointer (some ⟨w.heap.size + 1, 0, none⟩), .pointer (some ⟨w.heap.size + 1 + 1, 0, none⟩), .pointer (some ⟨w.heap.size + 1 + 1 + 1, 0, none⟩), .int .i64 0, .slice (some ⟨w6.heap.size + 2, 0, none⟩) mn mn, .int .i64 mn, .slice a n c, .int .i64 0, .int .i64 0, .bool false, undef, .int .i64 mn, .func (.func 125) #[] #[.pointer (some ⟨w.heap.size + 4, 0, none⟩)], .slice (some ⟨w6.heap.size + 2, 0, none⟩) mn mn, undef, undef, undef, undef, undef], defers := [] }
      ?hassign ?hbody (fun k A h => World.rowIs.lt h) ?hdone ?hstop
    case hIG => exact fun k A hA => (hA.1.2.cell (p := ⟨w.heap.size + 4, 0, none⟩) (HS.out 4 (by omega))).trans k0
    case hI => exact fun k => stays_and (stays_and (stays_below (by have := Hs6.out; omega) (Nat.le_refl _)) (stays_below (Nat.le_refl _) (Nat.le_refl _))) stays_pure
    case hIx =>
      exact fun c k => stays_and stays_pure (stays_ex fun v => stays_ex fun o => stays_and (stays_and (stays_and (stays_cell (HS.out 1 (by omega))) (stays_cell (HS.out 2 (by omega)))) (stays_cell (HS.out 3 (by omega)))) (stays_and (stays_and stays_own (stays_below (by have := Hs6.out; omega) (Nat.le_refl _))) stays_pure))
    case hassign =>
      intro l W K hK
      gi_wp2
      exact hK
    case hbody =>
      rintro l k W ⟨⟨hbw, hb6⟩, hall⟩ hkN hR hBW
      have hn := HO6.out k hkN
      have hII : IntsAt W (some ⟨w6.heap.size + 2, 0, none⟩) mn mn ((ordersL mn).getD k []) := by
        have := RowL.ints hR (by rw [hn]; omega)
        rwa [hn] at this
      have hLL := HI6.out.below hb6 (Nat.le_refl _)
      have z0 := (hb6.cell (p := ⟨w.heap.size, 0, none⟩) (HS.out 0 (by omega))).trans p0'
      have z1 := (hb6.cell (p := ⟨w.heap.size + 1, 0, none⟩) (HS.out 1 (by omega))).trans p1'
      have z2 := (hb6.cell (p := ⟨w.heap.size + 1 + 1, 0, none⟩) (HS.out 2 (by omega))).trans p2'
      have z3 := (hb6.cell (p := ⟨w.heap.size + 1 + 1 + 1, 0, none⟩) (HS.out 3 (by omega))).trans p3'
      have y1 := (hb6.frozen (p := ⟨w.heap.size + 1, 0, none⟩) (HS.out 1 (by omega))).trans g1'
      have y2 := (hb6.frozen (p := ⟨w.heap.size + 1 + 1, 0, none⟩) (HS.out 2 (by omega))).trans g2'
      have y3 := (hb6.frozen (p := ⟨w.heap.size + 1 + 1 + 1, 0, none⟩) (HS.out 3 (by omega))).trans g3'
      have hfc := sndFits_calls _ _ _ _ _ _ _ _ W hLL hII (by omega)
      have hcl := clone_calls _ _ _ _ W hII (by omega)
      generalize hO : (ordersL mn).getD k [] = o at hfc hII hn hR hcl
      have HO := hid_ hO; clear hO
      have Hcl := hid_ hcl; clear hcl
      have Hall := hid_ hall; clear hall
      have HR := hid_ hR; clear hR
      have Hn := hid_ hn; clear hn
      clear p0' p1' p2' p3' g1' g2' g3' k0
      cases hf : fitsP F o with
      | false =>
        rw [hf] at hfc
        have Hfc := hid_ hfc; clear hfc
        have Hf := hid_ hf; clear hf
        have Hnew : Hid (∀ j, j < k + 1 → fitsP F ((ordersL mn).getD j []) = false) := hid_ (lt_snoc Hall.out (by rw [HO.out]; exact Hf.out))
        gi_wp2
        refine ⟨trivial, (CallsIn.inRound l (callsIn_wide.2 Hfc.out)).mono ?_⟩
        rintro e W2 ⟨rfl, rfl⟩
        gi_wp2
        exact ⟨KeepsOthers.refl _, rfl, ⟨hbw, hb6⟩, Hnew.out⟩
      | true =>
        rw [hf] at hfc
        have Hfc := hid_ hfc; clear hfc
        have Hf := hid_ hf; clear hf
        have Hres2 : Hid (orderRes mn F = some o) := hid_ (by rw [Hfind.out, find_some Hall.out hkN (by rw [HO.out]; exact Hf.out), HO.out])
        gi_wp2
        refine ⟨trivial, (CallsIn.inRound l (callsIn_wide.2 Hfc.out)).mono ?_⟩
        rintro e W2 ⟨rfl, rfl⟩
        gi_wp2
        refine ⟨trivial, (CallsIn.inRound l (callsIn_wide.2 Hcl.out)).mono ?_⟩
        rintro e W3 ⟨v, rfl, hmade⟩
        obtain ⟨a7, c7, hv7, -⟩ := hmade.at_
        subst hv7
        have Hown := hid_ hmade.own
        have hb7 := hmade.bel
        clear hmade
        have hWs : w6.heap.size + 2 < W.heap.size := hBW
        have hWw : w.heap.size + 5 < W.heap.size := by have := Hs6.out; omega
        have x1 := (hb7.cell (p := ⟨w.heap.size + 1, 0, none⟩) (by show w.heap.size + 1 < _; omega)).trans z1
        have x2 := (hb7.cell (p := ⟨w.heap.size + 1 + 1, 0, none⟩) (by show w.heap.size + 1 + 1 < _; omega)).trans z2
        have x3 := (hb7.cell (p := ⟨w.heap.size + 1 + 1 + 1, 0, none⟩) (by show w.heap.size + 1 + 1 + 1 < _; omega)).trans z3
        have v1 := (hb7.frozen (p := ⟨w.heap.size + 1, 0, none⟩) (by show w.heap.size + 1 < _; omega)).trans y1
        have v2 := (hb7.frozen (p := ⟨w.heap.size + 1 + 1, 0, none⟩) (by show w.heap.size + 1 + 1 < _; omega)).trans y2
        have v3 := (hb7.frozen (p := ⟨w.heap.size + 1 + 1 + 1, 0, none⟩) (by show w.heap.size + 1 + 1 + 1 < _; omega)).trans y3
        have Hko : Hid (KeepsOthers W W3) := hid_ ⟨hb7.size, fun j o ho _ => by rw [hb7.block j (Array.getElem?_eq_some_iff.1 ho).1]; exact ho⟩
        have Hbw3 : Hid (Below w.heap.size w W3) := hid_ (hbw.trans (hb7.mono (by omega)))
        clear z0 z1 z2 z3 y1 y2 y3 hb7
        gi_wp2
        refine ⟨((Hko.out.trans (KeepsOthers.setCell _ _ _)).trans (KeepsOthers.setCell _ _ _)).trans (KeepsOthers.setCell _ _ _), rfl, .slice a7 o.length c7, o, ⟨⟨?_, ?_⟩, ?_⟩, ⟨?_, ?_⟩, Hres2.out⟩
        · rw [World.cell?_setCell_other _ _ _ _ (by simp), World.cell?_setCell_other _ _ _ _ (by simp), World.cell?_setCell_same _ _ _ x1]
        · rw [World.cell?_setCell_other _ _ _ _ (by simp), World.cell?_setCell_same _ _ _ (by rw [World.cell?_setCell_other _ _ _ _ (by simp)]; exact x2)]
        · rw [World.cell?_setCell_same _ _ _ (by rw [World.cell?_setCell_other _ _ _ _ (by simp), World.cell?_setCell_other _ _ _ _ (by simp)]; exact x3)]
        · exact ownsRow_setCell_below (ownsRow_setCell_below (ownsRow_setCell_below (own_base Hown.out (by omega)) (by show w.heap.size + 1 < _; have := Hs6.out; omega) _) (by show w.heap.size + 1 + 1 < _; have := Hs6.out; omega) _) (by show w.heap.size + 1 + 1 + 1 < _; have := Hs6.out; omega) _
        · exact ((Hbw3.out.setCell (p := ⟨w.heap.size + 1, 0, none⟩) (by show _ ≤ _ + 1; omega) _).setCell (p := ⟨w.heap.size + 1 + 1, 0, none⟩) (by show _ ≤ _ + 1 + 1; omega) _).setCell (p := ⟨w.heap.size + 1 + 1 + 1, 0, none⟩) (by show _ ≤ _ + 1 + 1 + 1; omega) _
    case hdone =>
      rintro D W hD ⟨⟨hbw, hb6⟩, hall⟩ hK
      have Hnone : Hid (orderRes mn F = none) := hid_ (by rw [Hfind.out]; exact find_none hall)
      have z1 := (hb6.cell (p := ⟨w.heap.size + 1, 0, none⟩) (HS.out 1 (by omega))).trans p1'
      have z2 := (hb6.cell (p := ⟨w.heap.size + 1 + 1, 0, none⟩) (HS.out 2 (by omega))).trans p2'
      have z3 := (hb6.cell (p := ⟨w.heap.size + 1 + 1 + 1, 0, none⟩) (HS.out 3 (by omega))).trans p3'
      have y1 := (hb6.frozen (p := ⟨w.heap.size + 1, 0, none⟩) (HS.out 1 (by omega))).trans g1'
      have y2 := (hb6.frozen (p := ⟨w.heap.size + 1 + 1, 0, none⟩) (HS.out 2 (by omega))).trans g2'
      have y3 := (hb6.frozen (p := ⟨w.heap.size + 1 + 1 + 1, 0, none⟩) (HS.out 3 (by omega))).trans g3'
      clear p0' p1' p2' p3' g1' g2' g3' k0 hall
      gi_wp2
      obtain ⟨W1, hW1⟩ : ∃ W1, (((W.setCell ⟨w.heap.size + 1, 0, none⟩ (.slice none 0 0)).setCell ⟨w.heap.size + 1 + 1, 0, none⟩ (.bool false)).setCell ⟨w.heap.size + 1 + 1 + 1, 0, none⟩ (.int .i64 0)) = W1 := ⟨_, rfl⟩
      have r1 : W1.cell? ⟨w.heap.size + 1, 0, none⟩ = some (.slice none 0 0) := by
        rw [← hW1, World.cell?_setCell_other _ _ _ _ (by simp), World.cell?_setCell_other _ _ _ _ (by simp), World.cell?_setCell_same _ _ _ z1]
      have r2 : W1.cell? ⟨w.heap.size + 1 + 1, 0, none⟩ = some (.bool false) := by
        rw [← hW1, World.cell?_setCell_other _ _ _ _ (by simp), World.cell?_setCell_same _ _ _ (by rw [World.cell?_setCell_other _ _ _ _ (by simp)]; exact z2)]
      have r3 : W1.cell? ⟨w.heap.size + 1 + 1 + 1, 0, none⟩ = some (.int .i64 0) := by
        rw [← hW1, World.cell?_setCell_same _ _ _ (by rw [World.cell?_setCell_other _ _ _ _ (by simp), World.cell?_setCell_other _ _ _ _ (by simp)]; exact z3)]
      have hK1 : W1.heap[D]? = some (.deferred (some [])) := by
        rw [← hW1]; exact (((KeepsOthers.setCell _ _ _).trans (KeepsOthers.setCell _ _ _)).trans (KeepsOthers.setCell _ _ _)).same D _ hK rfl
      have hb1 : Below w.heap.size w W1 := by
        rw [← hW1]; exact ((hbw.setCell (p := ⟨w.heap.size + 1, 0, none⟩) (by show _ ≤ _ + 1; omega) _).setCell (p := ⟨w.heap.size + 1 + 1, 0, none⟩) (by show _ ≤ _ + 1 + 1; omega) _).setCell (p := ⟨w.heap.size + 1 + 1 + 1, 0, none⟩) (by show _ ≤ _ + 1 + 1 + 1; omega) _
      rw [hW1]
      clear hW1
      have hDr : ∀ r, some D = some r → ∃ o : Obj, W1.heap[r]? = some o ∧ o.isCells = false := fun r e => by cases e; exact ⟨_, hK1, rfl⟩
      have s1 := cell_kept r1 (grownBy_putObj' W1 D (.deferred none)) hDr
      have s2 := cell_kept r2 (grownBy_putObj' W1 D (.deferred none)) hDr
      have s3 := cell_kept r3 (grownBy_putObj' W1 D (.deferred none)) hDr
      have hb2 : Below w.heap.size w (W1.putObj D (.deferred none)) := hb1.grown (grownBy_putObj' W1 D (.deferred none)) hb1.size fun r e => by cases e; have := Hs6.out; omega
      refine ⟨by simp, .inl ⟨_, _, rfl, run_takeDeferred hK1, ?_⟩⟩
      refine ⟨.tuple #[.slice none 0 0, .bool false, .int .i64 0], by simp [results, Try.results43, go_sem, s1, s2, s3], ?_⟩
      exact ⟨.slice none 0 0, by rw [HE.out, Hok.out, Hnone.out]; rfl, by rw [Hres.out, Hnone.out]; exact Made.none_ 3 hb2⟩
    case hstop =>
      rintro D c k W hD hkN ⟨rfl, v, o, ⟨⟨x1, x2⟩, x3⟩, ⟨hown, hbw⟩, hres2⟩ hK
      clear p0' p1' p2' p3' g1' g2' g3' k0
      gi_wp2
      have hDr : ∀ r, some D = some r → ∃ o : Obj, W.heap[r]? = some o ∧ o.isCells = false := fun r e => by cases e; exact ⟨_, hK, rfl⟩
      have s1 := cell_kept x1 (grownBy_putObj' W D (.deferred none)) hDr
      have s2 := cell_kept x2 (grownBy_putObj' W D (.deferred none)) hDr
      have s3 := cell_kept x3 (grownBy_putObj' W D (.deferred none)) hDr
      have hb2 : Below w.heap.size w (W.putObj D (.deferred none)) := hbw.grown (grownBy_putObj' W D (.deferred none)) hbw.size fun r e => by cases e; have := Hs6.out; omega
      have hown2 : (W.putObj D (.deferred none)).ownsRow (w6.heap.size + 3) 3 1 v o.length (o.map (Value.int .i64)) :=
        stays_own (D := w6.heap.size) W _ (some D) hown (grownBy_putObj' W D (.deferred none)) fun r e => by cases e; exact ⟨by omega, .inr ⟨_, hK, rfl⟩⟩
      refine ⟨by simp, .inl ⟨_, _, rfl, run_takeDeferred hK, ?_⟩⟩
      refine ⟨.tuple #[v, .bool true, .int .i64 0], by simp [results, Try.results43, go_sem, s1, s2, s3], ?_⟩
      exact ⟨v, by rw [HE.out, Hok.out, hres2]; rfl, by rw [Hres.out, hres2]; exact ⟨own_base hown2 (by have := Hs6.out; omega), hb2⟩⟩
  · have hqe : (famErr m F != 0) = true := by simpa using he
    have Hok : Hid (ordOk m F = false) := hid_ (by simp [ordOk, he])
    have Hres : Hid (ordV m F = []) := hid_ (if_neg he)
    generalize hE : famErr m F = er at hqe
    have HE := hid_ hE; clear hE he
    gi_wp2
    obtain ⟨w6, hw6⟩ : ∃ w6, (((w5.setCell ⟨w.heap.size + 1, 0, none⟩ (.slice none 0 0)).setCell ⟨w.heap.size + 1 + 1, 0, none⟩ (.bool false)).setCell ⟨w.heap.size + 1 + 1 + 1, 0, none⟩ (.int .i64 er)) = w6 := ⟨_, rfl⟩
    have r1 : w6.cell? ⟨w.heap.size + 1, 0, none⟩ = some (.slice none 0 0) := by
      rw [← hw6, World.cell?_setCell_other _ _ _ _ (by simp), World.cell?_setCell_other _ _ _ _ (by simp), World.cell?_setCell_same _ _ _ p1]
    have r2 : w6.cell? ⟨w.heap.size + 1 + 1, 0, none⟩ = some (.bool false) := by
      rw [← hw6, World.cell?_setCell_other _ _ _ _ (by simp), World.cell?_setCell_same _ _ _ (by rw [World.cell?_setCell_other _ _ _ _ (by simp)]; exact p2)]
    have r3 : w6.cell? ⟨w.heap.size + 1 + 1 + 1, 0, none⟩ = some (.int .i64 er) := by
      rw [← hw6, World.cell?_setCell_same _ _ _ (by rw [World.cell?_setCell_other _ _ _ _ (by simp), World.cell?_setCell_other _ _ _ _ (by simp)]; exact p3)]
    have hb6 : Below w.heap.size w w6 := by
      rw [← hw6]; exact ((Hb5.out.setCell (p := ⟨w.heap.size + 1, 0, none⟩) (by show _ ≤ _ + 1; omega) _).setCell (p := ⟨w.heap.size + 1 + 1, 0, none⟩) (by show _ ≤ _ + 1 + 1; omega) _).setCell (p := ⟨w.heap.size + 1 + 1 + 1, 0, none⟩) (by show _ ≤ _ + 1 + 1 + 1; omega) _
    rw [hw6]
    clear hw6
    refine ⟨.tuple #[.slice none 0 0, .bool false, .int .i64 er], by simp [results, Try.results43, go_sem, r1, r2, r3], ?_⟩
    exact ⟨.slice none 0 0, by rw [HE.out, Hok.out], by rw [Hres.out]; exact Made.none_ 3 hb6⟩
end Go.Proofs.Ytoopgmoopmbfnaa
namespace Go.Proofs.Ytoopgmoopmbfnaa
open Go.RowKit Go.Proofs.Kv Go.Proofs.Snd
attribute [local go_sem] Oper.semAt_some

/-! ### the fits of a right order are the reference's -/
theorem endsTo_first {o s : List Int} : ∀ {k j : Nat}, j < k → Has s (o.getD j 0) = true → 0 ≤ (endsTo o s k).1
  | k + 1, j, hj, h => by
    have bd := endsTo_bd o s k
    simp only [endsTo]
    by_cases e : j = k
    · subst e
      rw [h]
      simp only [if_true]
      split <;> omega
    · have := endsTo_first (k := k) (by omega) h
      split
      · split <;> simp only <;> omega
      · exact this
theorem IsSet_mem {s : List Int} {lo hi : Int} (h : IsSet s lo hi = true) : ∀ x ∈ s, lo ≤ x ∧ x ≤ hi := by
  intro x hx
  obtain ⟨i, hi', e⟩ := List.mem_iff_getElem.1 hx
  simp only [IsSet, List.all_eq_true, List.mem_range] at h
  have := h i hi'
  simp [setBad, Within, List.getElem?_eq_getElem hi', e] at this
  omega
theorem famErr_ok {m : Int} {F : List (List Int)} (h : famErr m F = 0) : (1 ≤ m ∧ m ≤ 6) ∧ F.length ≤ 6 ∧ ∀ s ∈ F, s ≠ [] ∧ ∀ x ∈ s, 0 ≤ x ∧ x ≤ m - 1 := by
  unfold famErr at h
  cases hw : Within m 1 6 with
  | false => rw [hw] at h; simp at h
  | true =>
    rw [hw] at h
    simp only [Bool.true_eq_false, if_false] at h
    by_cases h6 : 6 < F.length
    · rw [if_pos h6] at h; cases h
    · rw [if_neg h6] at h
      cases ha : F.all (famGood m) with
      | false => rw [ha] at h; simp at h
      | true =>
        refine ⟨by simpa [Within] using hw, by omega, fun s hs => ?_⟩
        have := List.all_eq_true.1 ha s hs
        simp only [famGood, Bool.and_eq_true, Bool.not_eq_true'] at this
        exact ⟨by intro e; rw [e] at this; simp at this, IsSet_mem this.2⟩
theorem fit_eq {m : Int} {F : List (List Int)} {o : List Int} (h : famErr m F = 0) (ho : IsOrd o m = true) : fitsP F o = fitsB F o := by
  obtain ⟨⟨h1, h6⟩, -, hs⟩ := famErr_ok h
  have key : ∀ s ∈ F, fitP o s = fitOne o s := by
    intro s hs'
    obtain ⟨hne, hb⟩ := hs s hs'
    obtain ⟨x, hx⟩ := List.exists_mem_of_ne_nil s hne
    have hx' := hb x hx
    simp only [IsOrd, Bool.and_eq_true, decide_eq_true_eq, List.all_eq_true, List.mem_range] at ho
    have hox := ho.2 x.toNat (by omega)
    rw [Int.toNat_of_nonneg hx'.1, Has_iff] at hox
    obtain ⟨j, hj, e⟩ := List.mem_iff_getElem.1 hox
    have hH : Has s (o.getD j 0) = true := by rw [List.getD, List.getElem?_eq_getElem hj, Option.getD_some, e]; exact Has_iff.2 hx
    have h0 : 0 ≤ (ends o s).1 := endsTo_first hj hH
    have : sp1 o.length (ends o s).1 = (ends o s).1 := if_neg (by omega)
    simp only [fitP, fitOne, spanL, this]
    congr 1
    omega
  rw [fitsP, fitsB]
  rw [Bool.eq_iff_iff, List.all_eq_true, List.all_eq_true]
  exact ⟨fun H s hs' => by rw [← key s hs']; exact H s hs', fun H s hs' => by rw [key s hs']; exact H s hs'⟩

/-! ### validateOrder, Fits -/
set_option maxRecDepth 100000 in
theorem validateOrder_calls (m : Int) (a : Option Addr) (n c : Nat) (F : List (List Int)) (a' : Option Addr) (n' c' : Nat) (o : List Int) (w : World) (h : ListsAt w a n c F) (h' : IntsAt w a' n' c' o) :
    Calls Try.prog 49 #[.int .i64 m, .slice a n c, .slice a' n' c'] w fun e w' => e = .returned (.int .i64 (ordErr m F o)) ∧ Below w.heap.size w w' := by
  have hfe := sndFamily_calls m a n c F w h
  by_cases he : famErr m F = 0
  · have hm6 := (famErr_ok he).1.2
    rw [he] at hfe
    have Hv := hid_ hfe; clear hfe
    cases ho : IsOrd o m with
    | true =>
      have Hf : Hid (ordErr m F o = 0) := hid_ (by rw [ordErr, if_pos he, ho]; rfl)
      clear he
      go_enter Try.func49, Try.ntmps49
      go_wp2_with fail
      refine Hv.out.mono ?_
      rintro e w1 ⟨rfl, q, rfl⟩
      have hc := sndIsOrder_calls _ _ _ _ m _ (h'.drewN q) hm6
      rw [ho] at hc
      have Hc := hid_ hc; clear hc
      have Hb1 : Hid (Below w.heap.size w (w.drewN q)) := hid_ (below_drewN (Below.refl _ _) q)
      have Hsz : Hid ((w.drewN q).heap.size = w.heap.size) := hid_ rfl
      generalize w.drewN q = w1 at Hc Hb1 Hsz
      go_wp2_with (go_at_call 60; refine Hc.out.mono ?_; rintro e w2 ⟨rfl, hb2⟩)
      go_ret
      exact ⟨retI Hf.out, Hb1.out.trans (by rw [← Hsz.out]; exact hb2)⟩
    | false =>
      have Hf : Hid (ordErr m F o = 1) := hid_ (by rw [ordErr, if_pos he, ho]; rfl)
      clear he
      go_enter Try.func49, Try.ntmps49
      go_wp2_with fail
      refine Hv.out.mono ?_
      rintro e w1 ⟨rfl, q, rfl⟩
      have hc := sndIsOrder_calls _ _ _ _ m _ (h'.drewN q) hm6
      rw [ho] at hc
      have Hc := hid_ hc; clear hc
      have Hb1 : Hid (Below w.heap.size w (w.drewN q)) := hid_ (below_drewN (Below.refl _ _) q)
      have Hsz : Hid ((w.drewN q).heap.size = w.heap.size) := hid_ rfl
      generalize w.drewN q = w1 at Hc Hb1 Hsz
      go_wp2_with (go_at_call 60; refine Hc.out.mono ?_; rintro e w2 ⟨rfl, hb2⟩)
      go_ret
      exact ⟨retI Hf.out, Hb1.out.trans (by rw [← Hsz.out]; exact hb2)⟩
  · have Hf : Hid (ordErr m F o = famErr m F) := hid_ (by rw [ordErr, if_neg he])
    generalize famErr m F = er at hfe he Hf
    have hq : (er != 0) = true := by simpa using he
    have Hv := hid_ hfe; clear hfe he
    go_enter Try.func49, Try.ntmps49
    go_wp2_with fail
    refine Hv.out.mono ?_
    rintro e w1 ⟨rfl, q, rfl⟩
    go_wp2
    go_ret
    exact ⟨retI Hf.out, below_drewN (Below.refl _ _) q⟩

theorem ordErr_ok {m : Int} {F : List (List Int)} {o : List Int} (h : ordErr m F o = 0) : famErr m F = 0 ∧ IsOrd o m = true := by
  unfold ordErr at h
  by_cases he : famErr m F = 0
  · rw [if_pos he] at h
    refine ⟨he, ?_⟩
    cases ho : IsOrd o m with
    | true => rfl
    | false => rw [ho] at h; simp at h
  · rw [if_neg he] at h; exact absurd h he
theorem ordErr_len {m : Int} {F : List (List Int)} {o : List Int} (h : ordErr m F o = 0) : o.length ≤ 6 := by
  obtain ⟨h1, h2⟩ := ordErr_ok h
  have := (famErr_ok h1).1
  simp only [IsOrd, Bool.and_eq_true, decide_eq_true_eq] at h2
  omega

set_option maxRecDepth 100000 in
theorem sndFitsX_calls (m : Int) (a : Option Addr) (n c : Nat) (F : List (List Int)) (a' : Option Addr) (n' c' : Nat) (o : List Int) (w : World) (h : ListsAt w a n c F) (h' : IntsAt w a' n' c' o) :
    Calls Try.prog 45 #[.int .i64 m, .slice a n c, .slice a' n' c'] w fun e w' => e = .returned (.tuple #[.bool (fitsRes m F o), .int .i64 (ordErr m F o)]) ∧ Below w.heap.size w w' := by
  have hfe := validateOrder_calls m a n c F a' n' c' o w h h'
  by_cases he : ordErr m F o = 0
  · have Hf : Hid (fitsRes m F o = fitsP F o) := hid_ ((if_pos he).trans (fit_eq (ordErr_ok he).1 (ordErr_ok he).2).symm)
    have hsm : n' ≤ 1000000 := by have := ordErr_len he; rw [h'.len] at this; omega
    rw [he] at hfe ⊢
    have Hv := hid_ hfe; clear hfe he
    go_enter Try.func45, Try.ntmps45
    go_wp2_with fail
    refine Hv.out.mono ?_
    rintro e w1 ⟨rfl, hb1⟩
    go_wp2_with (go_at_call 50; refine (sndFits_calls _ _ _ _ _ _ _ _ _ (h.below hb1 (Nat.le_refl _)) (h'.below hb1 (Nat.le_refl _)) hsm).mono ?_; rintro e w' ⟨rfl, rfl⟩)
    go_ret2
    exact ⟨by rw [Hf.out]; rfl, hb1⟩
  · have Hf : Hid (fitsRes m F o = false) := hid_ (if_neg he)
    generalize ordErr m F o = er at hfe he ⊢
    have hq : (er != 0) = true := by simpa using he
    have Hv := hid_ hfe; clear hfe he
    go_enter Try.func45, Try.ntmps45
    go_wp2_with fail
    refine Hv.out.mono ?_
    rintro e w1 ⟨rfl, hb1⟩
    go_wp2
    go_ret2
    exact ⟨by rw [Hf.out]; rfl, hb1⟩
end Go.Proofs.Ytoopgmoopmbfnaa
namespace Go.Proofs.Ytoopgmoopmbfnaa
open Go.RowKit Go.Proofs.Kv Go.Proofs.Snd

/-! ### large, Long -/
def bigOne (l : List Int) : Bool := decide (100 < l.length)
def bigL (L : List (List Int)) : Bool := decide (50 < L.length) || L.any bigOne
theorem bigL_no {L : List (List Int)} (h : bigL L = false) : L.length ≤ 50 ∧ ∀ s ∈ L, s.length ≤ 100 := by
  simp only [bigL, Bool.or_eq_false_iff, decide_eq_false_iff_not, List.any_eq_false] at h
  refine ⟨by omega, fun s hs => ?_⟩
  have := h.2 s hs
  simp only [bigOne, decide_eq_true_eq] at this
  omega
theorem flat_len {k : Nat} : ∀ {L : List (List Int)}, (∀ s ∈ L, s.length ≤ k) → L.flatten.length ≤ L.length * k
  | [], _ => by simp
  | s :: L, h => by
    have h1 := h s (by simp)
    have h2 := flat_len (L := L) (k := k) fun t ht => h t (by simp [ht])
    simp only [List.flatten_cons, List.length_append, List.length_cons, Nat.succ_mul]
    omega
theorem bigL_flat {L : List (List Int)} (h : bigL L = false) : L.flatten.length ≤ 100000 := by
  obtain ⟨h1, h2⟩ := bigL_no h
  have h3 := flat_len h2
  have : L.length * 100 ≤ 50 * 100 := Nat.mul_le_mul_right _ h1
  omega

theorem large_calls (a : Option Addr) (n c : Nat) (l : List Int) (w : World) (h : IntsAt w a n c l) :
    Calls Try.prog 12 #[.slice a n c] w fun e w' => e = .returned (.bool (bigOne l)) ∧ w = w' := by
  have Hf : Hid (bigOne l = decide ((100 : Int) < n)) := hid_ (by rw [bigOne, h.len]; exact decide_eq_decide.2 (by omega))
  go_enter Try.func12, Try.ntmps12
  go_wp2
  go_ret
  exact ⟨retB Hf.out, rfl⟩

set_option maxRecDepth 100000 in
theorem long_calls (a : Option Addr) (n c : Nat) (F : List (List Int)) (w : World) (h : ListsAt w a n c F) :
    Calls Try.prog 11 #[.slice a n c] w fun e w' => e = .returned (.bool (bigL F)) ∧ w = w' := by
  have hn : n ≤ 9223372036854775807 := Nat.le_trans h.le h.small
  have hlen := hid_ h.len
  by_cases hb : 50 < n
  · have Hf : Hid (bigL F = true) := hid_ (by rw [bigL, hlen.out, decide_eq_true hb]; rfl)
    go_enter Try.func11, Try.ntmps11
    go_wp2
    go_ret
    exact ⟨retB Hf.out, rfl⟩
  · have Hn : Hid (bigL F = F.any bigOne) := hid_ (by rw [bigL, hlen.out, decide_eq_false hb]; rfl)
    go_enter Try.func11, Try.ntmps11
    go_wp2
    go_loop [3] (fun i => ∃ k : Nat, k ≤ n ∧ i = .int .i64 k ∧ ∀ j, j < k → bigOne (F.getD j []) = false) (fun i => n - (intOf i).toNat)
    case atStart => exact ⟨0, Nat.zero_le _, rfl, fun _ h => absurd h (by omega)⟩
    case round =>
      obtain ⟨k, hk, rfl, hall⟩ := hrel
      have Hall := hid_ hall; clear hall
      by_cases hlt : k < n
      · obtain ⟨b, off, a1, n1, c1, rfl, hb', hcell, hrow⟩ := h.cells k hlt
        have hl : k < F.length := by rw [hlen.out]; exact hlt
        have hec := large_calls _ _ _ _ w hrow
        generalize hr : F.getD k [] = r at hrow hec
        have Hr := hid_ hr; clear hr
        cases hq : bigOne r with
        | true =>
          rw [hq] at hec
          have Hec := hid_ hec; clear hec
          have Hf : Hid (bigL F = true) := hid_ (by rw [Hn.out, List.any_eq_true]; exact ⟨r, by rw [← Hr.out]; simp [List.getD, List.getElem?_eq_getElem hl], hq⟩)
          clear hq
          go_wp2_with (go_at_call 12; refine Hec.out.mono ?_; rintro e w' ⟨rfl, rfl⟩)
          go_ret
          exact ⟨retB Hf.out, rfl⟩
        | false =>
          rw [hq] at hec
          have Hec := hid_ hec; clear hec
          have Hq := hid_ hq; clear hq
          go_wp2_with (go_at_call 12; refine Hec.out.mono ?_; rintro e w' ⟨rfl, rfl⟩)
          go_round
          case rel => exact ⟨k + 1, by omega, by go_num, lt_snoc Hall.out (by rw [Hr.out]; exact Hq.out)⟩
          case measure => simp [intOf]; omega
      · have Hf : Hid (bigL F = false) := hid_ (by
          rw [Hn.out, List.any_eq_false]
          intro s hs
          obtain ⟨i, hi, e⟩ := List.mem_iff_getElem.1 hs
          have := Hall.out i (by have := hlen.out; omega)
          rw [List.getD, List.getElem?_eq_getElem hi, Option.getD_some, e] at this
          rw [this]; simp)
        go_wp2
        go_ret
        exact ⟨retB Hf.out, rfl⟩
end Go.Proofs.Ytoopgmoopmbfnaa
namespace Go.Proofs.Ytoopgmoopmbfnaa
open Go.RowKit Go.Proofs.Kv Go.Proofs.Snd

/-! ### slices.Sort of a row of the call's own -/
theorem sort_calls {B E n : Nat} {v : Value} {l : List Int} {w : World} (hown : w.ownsRow B E 1 v n (l.map (Value.int .i64))) (h0 : 0 < n) (hs : n ≤ 100000) (hB : B ≤ w.heap.size) :
    Calls Try.prog 82 #[v] w fun e w' => e = .returned (.tuple #[]) ∧ w'.ownsRow B E 1 v n ((l.mergeSort fun a b => decide (a ≤ b)).map (Value.int .i64)) ∧ Below B w w' := by
  have hl : l.length = n := by have := hown.1; simpa using this
  rcases hown.2 with ⟨rfl, rfl⟩ | ⟨g, cap, cur, rfl, hbase, hb, h1, h2, h3, h4⟩
  · omega
  · subst hl
    have hlt := (Array.getElem?_eq_some_iff.1 hb).1
    refine (Try.slices_Sort_int g 0 cap l w (Go.holds_of_blockI hb (by rw [Nat.mul_one] at h4; exact h4)) hlt (by omega)).mono ?_
    rintro e w' ⟨rfl, k, os, rfl⟩
    refine ⟨rfl, ?_, ?_⟩
    · have := Go.ownsRow_sortedI (n := k) (os := os) (ts := l.mergeSort fun a b => decide (a ≤ b)) (ss := l) (by simp) hbase hb h1 h2 h3
      exact this
    · exact (Below.refl _ _).grown (Go.grownBy_sortedI _) hB fun r e => by cases e; exact hbase

/-! ### stand -/
theorem IntsAt_drop {w : World} {b off : Nat} {n c : Nat} {l : List Int} (h : IntsAt w (some ⟨b, off, none⟩) n c l) {k : Nat} (hk : k ≤ n) : IntsAt w (some ⟨b, off + k, none⟩) (n - k) (c - k) (l.drop k) :=
  ⟨by rw [List.length_drop, h.len], by have := h.le; omega, by have := h.small; omega, fun i hi => by
    obtain ⟨b', off', ha, hb, hc⟩ := h.cells (k + i) (by omega)
    injection ha with ha; injection ha with e1 e2
    subst e1; subst e2
    refine ⟨b, off + k, rfl, hb, ?_⟩
    rw [Nat.add_assoc]
    refine hc.trans ?_
    simp [List.getD]⟩
theorem from_idx : ∀ {l : List Int} {x : Int}, x ∈ l → from_ x l = l.drop (l.findIdx fun y => y == x) ∧ (l.findIdx fun y => y == x) < l.length
  | y :: l, x, h => by
    unfold from_
    rw [List.dropWhile_cons, List.findIdx_cons]
    by_cases e : y = x
    · subst e; simp
    · have hx : x ∈ l := by rcases List.mem_cons.1 h with e' | h'; exact absurd e'.symm e; exact h'
      have ih := from_idx hx
      unfold from_ at ih
      have e1 : (y != x) = true := by simpa using e
      have e2 : (y == x) = false := by simpa using e
      rw [if_pos e1, e2, cond_false, List.drop_succ_cons, List.length_cons]
      exact ⟨ih.1, by omega⟩
theorem idx_in {l : List Int} {x : Int} (h : x ∈ l) : ∃ k : Nat, idx l x = k ∧ k < l.length ∧ from_ x l = l.drop k :=
  ⟨_, by rw [idx, Has_iff.2 h]; rfl, (from_idx h).2, (from_idx h).1⟩

set_option maxRecDepth 100000 in
theorem sndStand_calls (a : Option Addr) (n c : Nat) (L : List (List Int)) (x : Int) (y : Nat) (w : World) (h : ListsAt w a n c L) (hs : L.flatten.length ≤ 100000) (hy : y < n) (hx : x ∈ (L.take (y + 1)).flatten)
    (hnd : L.flatten.Nodup) (hr : ∀ z ∈ L.flatten, 0 ≤ z ∧ z ≤ 5) :
    Calls Try.prog 98 #[.slice a n c, .agg #[.int .i64 x, .int .i64 y]] w fun e w' => ∃ v, e = .returned v ∧ Made 3 w w' v (standL L x y) := by
  have hn : n ≤ 9223372036854775807 := Nat.le_trans h.le h.small
  obtain ⟨b, off, a1, n1, c1, rfl, -, -, -⟩ := h.cells y hy
  have hsub : (L.take (y + 1)).flatten.Sublist L.flatten := by
    have e : L.flatten = (L.take (y + 1)).flatten ++ (L.drop (y + 1)).flatten := by rw [← List.flatten_append, List.take_append_drop]
    rw [e]; exact List.sublist_append_left _ _
  have hb0 : Below w.heap.size w (w.alloc (.cells #[.int .i64 x, .int .i64 y] 71)) := (Below.refl _ w).alloc (Nat.le_refl _) _
  have hc0 : (w.alloc (.cells #[.int .i64 x, .int .i64 y] 71)).cell? ⟨w.heap.size, 0, none⟩ = some (.int .i64 x) := by rw [World.cell?_alloc_at _ _ _ _ (by rfl)]; rfl
  have hc1 : (w.alloc (.cells #[.int .i64 x, .int .i64 y] 71)).cell? ⟨w.heap.size, 1, none⟩ = some (.int .i64 y) := by rw [World.cell?_alloc_at _ _ _ _ (by rfl)]; rfl
  have hwr : IntKind.i64.wrap ((y : Int) + 1) = ((y + 1 : Nat) : Int) := IntWalk.i64_in _ (by omega)
  have hcat := concat_calls _ _ _ _ _ ((h.below hb0 (Nat.le_refl _)).take (k := y + 1) (by omega)) (Nat.le_trans hsub.length_le hs)
  have hle : y + 1 ≤ c := Nat.le_trans (by omega) h.le
  obtain ⟨k, hk, hkl, hfr⟩ := idx_in hx
  have Hfr : Hid (sorted ((L.take (y + 1)).flatten.drop k) = standL L x y) := hid_ (by rw [standL, Int.toNat_natCast, hfr])
  have Hsort : Hid (((L.take (y + 1)).flatten.drop k).mergeSort (fun a b => decide (a ≤ b)) = sorted ((L.take (y + 1)).flatten.drop k)) :=
    hid_ (sort_sounds ((List.drop_sublist _ _).trans hsub |>.nodup hnd) fun z hz => hr z (((List.drop_sublist _ _).trans hsub).subset hz))
  have Hlen : Hid ((L.take (y + 1)).flatten.length ≤ 100000) := hid_ (Nat.le_trans hsub.length_le hs)
  generalize hp : (L.take (y + 1)).flatten = p at hcat hk hkl hfr Hfr Hsort Hlen
  clear hp hx hsub hfr
  have Hc0 := hid_ hc0; clear hc0
  have Hc1 := hid_ hc1; clear hc1
  have Hb0 := hid_ hb0; clear hb0
  have Hcat := hid_ hcat; clear hcat
  go_enter Try.func98, Try.ntmps98
  go_wp2_with fail
  refine Hcat.out.mono ?_
  rintro e w1 ⟨v, rfl, hm1⟩
  obtain ⟨a2, c2, rfl, hi1⟩ := hm1.at_
  obtain ⟨b2, off2, rfl, -, -⟩ := hi1.cells 0 (by omega)
  have g0 := (hm1.bel.cell (p := ⟨w.heap.size, 0, none⟩) (by simp)).trans Hc0.out
  have Hb1 : Hid (Below w.heap.size w w1) := hid_ (Hb0.out.trans (hm1.bel.mono (by simp)))
  have hix := index_calls _ _ _ _ x w1 hi1
  rw [hk] at hix
  have Hix := hid_ hix; clear hix
  have Hcl := hid_ (clone_calls _ _ _ _ w1 (IntsAt_drop hi1 (Nat.le_of_lt hkl)) (by have := Hlen.out; omega))
  have hne2 : ¬ (c2 = k) := by have := hi1.le; omega
  clear hm1 hi1
  go_wp2_with fail
  refine Hix.out.mono ?_
  rintro e w1' ⟨rfl, rfl⟩
  go_wp2_with fail
  refine Hcl.out.mono ?_
  rintro e w2 ⟨v2, rfl, hm2⟩
  have hlen2 : (p.drop k).length = p.length - k := List.length_drop
  have Hso := hid_ (sort_calls hm2.own (by omega) (by have := Hlen.out; omega) hm2.bel.size)
  have Hb2 : Hid (Below w.heap.size w w2) := hid_ (below_then Hb1.out hm2.bel)
  have Hs1 := hid_ Hb1.out.size
  clear hm2
  go_wp2_with fail
  refine Hso.out.mono ?_
  rintro e w3 ⟨rfl, hown3, hb3⟩
  go_wp2
  go_ret
  refine ⟨_, rfl, ?_, Hb2.out.trans (hb3.mono Hs1.out)⟩
  rw [Hsort.out, Hfr.out] at hown3
  refine own_base ?_ Hs1.out
  have : (p.drop k).length = (standL L x y).length := by rw [← Hfr.out, ← Hsort.out]; simp
  rw [← this]
  exact hown3
end Go.Proofs.Ytoopgmoopmbfnaa
namespace Go.Proofs.Ytoopgmoopmbfnaa
open Go.RowKit Go.Proofs.Kv Go.Proofs.Snd

/-! ### cmp.Compare, cmp.Or, slices.Compare -/
def cmpI (x y : Int) : Int := if x < y then -1 else if y < x then 1 else 0
theorem cmpI_calls (x y : Int) (w : World) :
    Calls Try.prog 108 #[.int .i64 x, .int .i64 y] w fun e w' => e = .returned (.int .i64 (cmpI x y)) ∧ w = w' := by
  have Hnan : ∀ z, Hid (Calls Try.prog 133 #[.int .i64 z] w fun e w' => e = .returned (.bool false) ∧ w' = w) := fun z => hid_ (Try.cmp_isNaN_int2 z w)
  by_cases h1 : x < y
  · have Hf : Hid (cmpI x y = -1) := hid_ (if_pos h1)
    go_enter Try.func108, Try.ntmps108
    go_wp2_with (go_at_call 133; refine (Hnan _).out.mono ?_; rintro e w' ⟨rfl, rfl⟩)
    go_ret
    exact ⟨retI Hf.out, rfl⟩
  · by_cases h2 : y < x
    · have Hf : Hid (cmpI x y = 1) := hid_ (by rw [cmpI, if_neg h1, if_pos h2])
      go_enter Try.func108, Try.ntmps108
      go_wp2_with (go_at_call 133; refine (Hnan _).out.mono ?_; rintro e w' ⟨rfl, rfl⟩)
      go_ret
      exact ⟨retI Hf.out, rfl⟩
    · have Hf : Hid (cmpI x y = 0) := hid_ (by rw [cmpI, if_neg h1, if_neg h2])
      go_enter Try.func108, Try.ntmps108
      go_wp2_with (go_at_call 133; refine (Hnan _).out.mono ?_; rintro e w' ⟨rfl, rfl⟩)
      go_ret
      exact ⟨retI Hf.out, rfl⟩

def orI : List Int → Int
  | [] => 0
  | x :: l => if x = 0 then orI l else x
theorem orI_hit : ∀ {l : List Int} {k : Nat}, (∀ j, j < k → l.getD j 0 = 0) → k < l.length → l.getD k 0 ≠ 0 → orI l = l.getD k 0
  | x :: l, 0, _, _, h => by simp [List.getD] at h; simp [orI, h, List.getD]
  | x :: l, k + 1, h, hk, hh => by
    have h0 : x = 0 := by simpa [List.getD] using h 0 (by omega)
    rw [orI, if_pos h0]
    have := orI_hit (l := l) (k := k) (fun j hj => by simpa [List.getD] using h (j + 1) (by omega)) (by simpa using hk) (by simpa [List.getD] using hh)
    simpa [List.getD] using this
theorem orI_miss : ∀ {l : List Int}, (∀ j, j < l.length → l.getD j 0 = 0) → orI l = 0
  | [], _ => rfl
  | x :: l, h => by
    have h0 : x = 0 := by simpa [List.getD] using h 0 (by simp)
    rw [orI, if_pos h0]
    exact orI_miss fun j hj => by simpa [List.getD] using h (j + 1) (by simpa using hj)
set_option maxRecDepth 100000 in
theorem orI_calls (a : Option Addr) (n c : Nat) (l : List Int) (w : World) (h : IntsAt w a n c l) :
    Calls Try.prog 155 #[.slice a n c] w fun e w' => e = .returned (.int .i64 (orI l)) ∧ w = w' := by
  have hn : n ≤ 9223372036854775807 := Nat.le_trans h.le h.small
  have hlen := hid_ h.len
  go_enter Try.func155, Try.ntmps155
  go_wp2
  go_loop [8] (fun i => ∃ k : Nat, k ≤ n ∧ i = .int .i64 k ∧ ∀ j, j < k → l.getD j 0 = 0) (fun i => n - (intOf i).toNat)
  case atStart => exact ⟨0, Nat.zero_le _, rfl, fun _ h => absurd h (by omega)⟩
  case round =>
    obtain ⟨k, hk, rfl, hall⟩ := hrel
    have Hall := hid_ hall; clear hall
    by_cases hlt : k < n
    · obtain ⟨b, off, rfl, hb, hcell⟩ := h.cells k hlt
      have hl : k < l.length := by rw [hlen.out]; exact hlt
      generalize hr : l.getD k 0 = r at hcell
      have Hr := hid_ hr; clear hr
      by_cases hq : r = 0
      · have Hq := hid_ hq
        subst hq
        go_wp2
        go_round
        case rel => exact ⟨k + 1, by omega, by go_num, lt_snoc Hall.out Hr.out⟩
        case measure => simp [intOf]; omega
      · have Hf : Hid (orI l = r) := hid_ (by rw [← Hr.out]; exact orI_hit Hall.out hl (by rw [Hr.out]; exact hq))
        have hqe : (r != 0) = true := by simpa using hq
        clear hq
        go_wp2
        go_ret
        exact ⟨retI Hf.out, rfl⟩
    · have Hf : Hid (orI l = 0) := hid_ (orI_miss fun j hj => Hall.out j (by have := hlen.out; omega))
      go_wp2
      go_ret
      exact ⟨retI Hf.out, rfl⟩

/-- the order of lists -/
def cmpL : List Int → List Int → Int
  | [], [] => 0
  | [], _ :: _ => -1
  | _ :: _, [] => 1
  | x :: l, y :: m => if cmpI x y = 0 then cmpL l m else cmpI x y
theorem cmpL_at : ∀ {l m : List Int} {k : Nat}, (∀ j, j < k → cmpI (l.getD j 0) (m.getD j 0) = 0) → k ≤ l.length → k ≤ m.length → cmpL l m = cmpL (l.drop k) (m.drop k)
  | l, m, 0, _, _, _ => rfl
  | x :: l, y :: m, k + 1, h, h1, h2 => by
    have h0 : cmpI x y = 0 := by simpa [List.getD] using h 0 (by omega)
    rw [cmpL, if_pos h0, List.drop_succ_cons, List.drop_succ_cons]
    exact cmpL_at (fun j hj => by simpa [List.getD] using h (j + 1) (by omega)) (by simpa using h1) (by simpa using h2)
theorem drop_cons_getD {l : List Int} {k : Nat} (h : k < l.length) : l.drop k = l.getD k 0 :: l.drop (k + 1) := by
  rw [List.drop_eq_getElem_cons h]; simp [List.getD, List.getElem?_eq_getElem h]
set_option maxRecDepth 100000 in
theorem cmpL_calls (a : Option Addr) (n c : Nat) (l : List Int) (a' : Option Addr) (n' c' : Nat) (m : List Int) (w : World) (h : IntsAt w a n c l) (h' : IntsAt w a' n' c' m) :
    Calls Try.prog 64 #[.slice a n c, .slice a' n' c'] w fun e w' => e = .returned (.int .i64 (cmpL l m)) ∧ w = w' := by
  have hn : n ≤ 9223372036854775807 := Nat.le_trans h.le h.small
  have hn' : n' ≤ 9223372036854775807 := Nat.le_trans h'.le h'.small
  have hlen := hid_ h.len
  have hlen' := hid_ h'.len
  go_enter Try.func64, Try.ntmps64
  go_wp2
  go_loop [11] (fun i => ∃ k : Nat, k ≤ n ∧ k ≤ n' ∧ i = .int .i64 k ∧ ∀ j, j < k → cmpI (l.getD j 0) (m.getD j 0) = 0) (fun i => n - (intOf i).toNat)
  case atStart => exact ⟨0, Nat.zero_le _, Nat.zero_le _, rfl, fun _ h => absurd h (by omega)⟩
  case round =>
    obtain ⟨k, hk, hk', rfl, hall⟩ := hrel
    have Hall := hid_ hall; clear hall
    have Hat : Hid (cmpL l m = cmpL (l.drop k) (m.drop k)) := hid_ (cmpL_at Hall.out (by rw [hlen.out]; exact hk) (by rw [hlen'.out]; exact hk'))
    by_cases hlt : k < n
    · obtain ⟨b, off, rfl, hb, hcell⟩ := h.cells k hlt
      have hl : k < l.length := by rw [hlen.out]; exact hlt
      generalize hr : l.getD k 0 = r at hcell
      have Hr := hid_ hr; clear hr
      by_cases hlt' : k < n'
      · obtain ⟨b', off', rfl, hb', hcell'⟩ := h'.cells k hlt'
        have hl' : k < m.length := by rw [hlen'.out]; exact hlt'
        generalize hr' : m.getD k 0 = r' at hcell'
        have Hr' := hid_ hr'; clear hr'
        have hc := cmpI_calls r r' w
        by_cases hq : cmpI r r' = 0
        · have Hq := hid_ hq
          rw [hq] at hc
          have Hc := hid_ hc; clear hc hq
          go_wp2_with (go_at_call 108; refine Hc.out.mono ?_; rintro e w' ⟨rfl, rfl⟩)
          go_round
          case rel => exact ⟨k + 1, by omega, by omega, by go_num, lt_snoc Hall.out (by rw [Hr.out, Hr'.out, Hq.out])⟩
          case measure => simp [intOf]; omega
        · have Hf : Hid (cmpL l m = cmpI r r') := hid_ (by rw [Hat.out, drop_cons_getD hl, drop_cons_getD hl', Hr.out, Hr'.out, cmpL, if_neg hq])
          generalize cmpI r r' = z at hc hq Hf
          have hqe : (z != 0) = true := by simpa using hq
          have Hc := hid_ hc; clear hc hq
          go_wp2_with (go_at_call 108; refine Hc.out.mono ?_; rintro e w' ⟨rfl, rfl⟩)
          go_ret
          exact ⟨retI Hf.out, rfl⟩
      · have Hf : Hid (cmpL l m = 1) := hid_ (by rw [Hat.out, drop_cons_getD hl, List.drop_of_length_le (l := m) (by rw [hlen'.out]; omega)]; rfl)
        go_wp2
        go_ret
        exact ⟨retI Hf.out, rfl⟩
    · have hnk : l.drop k = [] := List.drop_of_length_le (by rw [hlen.out]; omega)
      by_cases hlt' : n < n'
      · have Hf : Hid (cmpL l m = -1) := hid_ (by rw [Hat.out, hnk, drop_cons_getD (l := m) (by rw [hlen'.out]; omega)]; rfl)
        go_wp2
        go_ret
        exact ⟨retI Hf.out, rfl⟩
      · have Hf : Hid (cmpL l m = 0) := hid_ (by rw [Hat.out, hnk, List.drop_of_length_le (l := m) (by rw [hlen'.out]; omega)]; rfl)
        go_wp2
        go_ret
        exact ⟨retI Hf.out, rfl⟩
end Go.Proofs.Ytoopgmoopmbfnaa
namespace Go.Proofs.Ytoopgmoopmbfnaa
open Go.RowKit Go.Proofs.Kv Go.Proofs.Snd

/-! ### rank.compare -/
def cmpP (x y : Int × Int) : Int := orI [cmpI x.1 y.1, cmpI x.2 y.2]
set_option maxRecDepth 100000 in
theorem rankCmp_calls (x1 x2 y1 y2 : Int) (w : World) :
    Calls Try.prog 129 #[.agg #[.int .i64 x1, .int .i64 x2], .agg #[.int .i64 y1, .int .i64 y2]] w fun e w' => e = .returned (.int .i64 (cmpP (x1, x2) (y1, y2))) ∧ ∃ q os, w' = Go.Sort.grow (w.drewN q) os := by
  obtain ⟨w2, hw2⟩ : ∃ w2, (w.alloc (.cells #[.int .i64 x1, .int .i64 x2] 127)).alloc (.cells #[.int .i64 y1, .int .i64 y2] 127) = w2 := ⟨_, rfl⟩
  have c0 : w2.cell? ⟨w.heap.size, 0, none⟩ = some (.int .i64 x1) := by rw [← hw2, World.cell?_alloc_past _ _ _ (by simp), World.cell?_alloc_at _ _ _ _ rfl]; rfl
  have c1 : w2.cell? ⟨w.heap.size, 1, none⟩ = some (.int .i64 x2) := by rw [← hw2, World.cell?_alloc_past _ _ _ (by simp), World.cell?_alloc_at _ _ _ _ rfl]; rfl
  have c2 : w2.cell? ⟨w.heap.size + 1, 0, none⟩ = some (.int .i64 y1) := by rw [← hw2, World.cell?_alloc_at _ _ _ _ (by simp)]; rfl
  have c3 : w2.cell? ⟨w.heap.size + 1, 1, none⟩ = some (.int .i64 y2) := by rw [← hw2, World.cell?_alloc_at _ _ _ _ (by simp)]; rfl
  have Hw2 : Hid (w2 = Go.Sort.grow w #[.cells #[.int .i64 x1, .int .i64 x2] 127, .cells #[.int .i64 y1, .int .i64 y2] 127]) := hid_ (by rw [← hw2, Go.Sort.alloc_eq_grow, Go.Sort.alloc_eq_grow, Go.Sort.grow_grow]; rfl)
  go_enter Try.func129, Try.ntmps129
  go_wp2
  clear hw2
  have Hor : Hid (∀ (W : World) (B : Nat), IntsAt W (some ⟨B, 0, none⟩) 2 2 [cmpI x1 y1, cmpI x2 y2] → Calls Try.prog 155 #[.slice (some ⟨B, 0, none⟩) 2 2] W fun e w' => e = .returned (.int .i64 (cmpP (x1, x2) (y1, y2))) ∧ W = w') := hid_ fun W B h => orI_calls _ _ _ _ W h
  have Hc1 : Hid (∀ W : World, Calls Try.prog 108 #[.int .i64 x1, .int .i64 y1] W fun e w' => e = .returned (.int .i64 (cmpI x1 y1)) ∧ w' = W) := hid_ fun W => (cmpI_calls x1 y1 W).mono fun _ _ h => ⟨h.1, h.2.symm⟩
  have Hc2 : Hid (∀ W : World, Calls Try.prog 108 #[.int .i64 x2, .int .i64 y2] W fun e w' => e = .returned (.int .i64 (cmpI x2 y2)) ∧ w' = W) := hid_ fun W => (cmpI_calls x2 y2 W).mono fun _ _ h => ⟨h.1, h.2.symm⟩
  have HI : Hid (∀ W : World, IntsAt (W.alloc (.cells #[.int .i64 (cmpI x1 y1), .int .i64 (cmpI x2 y2)] 3)) (some ⟨W.heap.size, 0, none⟩) 2 2 [cmpI x1 y1, cmpI x2 y2]) := hid_ fun W =>
    ⟨rfl, Nat.le_refl _, by omega, fun i hi => ⟨W.heap.size, 0, rfl, by simp, by
      rw [World.cell?_alloc_at _ _ _ _ rfl]
      match i, hi with
      | 0, _ => rfl
      | 1, _ => rfl⟩⟩
  generalize cmpI x1 y1 = z1 at Hor Hc1 HI
  generalize cmpI x2 y2 = z2 at Hor Hc2 HI
  generalize hz : cmpP (x1, x2) (y1, y2) = z at Hor
  have Hz := hid_ hz; clear hz
  refine wp_region_still_tail 10 (by kernel_rfl) (by kernel_rfl) ?_
  simp only [List.take_succ_cons, List.take_zero, List.drop_succ_cons, List.drop_zero]
  iterate 4 still_step
  still_call (Hc1.out _)
  iterate 4 still_step
  still_call (Hc2.out _)
  refine wpStill_nil ?_
  have Hw3 : Hid (w2.drew = Go.Sort.grow (w.drewN 1) #[.cells #[.int .i64 x1, .int .i64 x2] 127, .cells #[.int .i64 y1, .int .i64 y2] 127]) := hid_ (by rw [Hw2.out]; rfl)
  change wpList _ _ _ _ _ w2.drew
  generalize w2.drew = w3 at Hw3
  clear c0 c1 c2 c3 Hw2
  go_wp2_with fail
  refine (Hor.out _ _ (HI.out _)).mono ?_
  rintro e w4 ⟨rfl, rfl⟩
  go_wp2
  go_ret
  exact ⟨retI Hz.out, 1, _, by rw [Go.Sort.alloc_eq_grow, Hw3.out, Go.Sort.grow_grow]⟩
end Go.Proofs.Ytoopgmoopmbfnaa
namespace Go.Proofs.Ytoopgmoopmbfnaa
open Go.RowKit Go.Proofs.Kv Go.Proofs.Snd Go.Sort Go.Shelf Go.Proofs

/-! ### a row of the call's own, sorted in place -/
theorem holds_flat {w : World} {g n : Nat} {cur : Array Value} {e : TypeId} {xs : List Value} (hb : w.heap[g]? = some (.cells cur e (0, 0))) (hl : xs.length = n) (ht : cur.toList.take n = xs) : Holds id w g 0 xs.toArray := by
  intro j hj
  have hj' : j < xs.length := by simpa using hj
  refine ⟨?_, by simp [World.frozen?, hb]⟩
  have h1 : (cur.toList.take n)[j]? = xs[j]? := by rw [ht]
  rw [List.getElem?_take_of_lt (by omega)] at h1
  simp only [World.cell?, hb, Nat.zero_add]
  simp only [Option.isSome_none, Bool.false_eq_true, if_false]
  rw [← Array.getElem?_toList, h1]
  simp [hj']
theorem heap_flat {w : World} {g m : Nat} {os : Array Obj} {cur : Array Value} {e : TypeId} {fr : Nat × Nat} (d : Array Value) (hb : w.heap[g]? = some (.cells cur e fr)) :
    (grow (putRow id (Sort.ahead w m) g 0 d) os).heap[g]? = some (.cells (putCells id 0 d cur) e fr) := by
  have hg : g < w.heap.size := (Array.getElem?_eq_some_iff.1 hb).1
  rw [heap_grow_old _ _ (by simpa using hg)]
  simp [putRow, mapBlock, Sort.ahead, Array.getElem?_modify, hb, onCells]
theorem grownBy_flat {w : World} {g m : Nat} {os : Array Obj} (d : Array Value) : w.grownBy (grow (putRow id (Sort.ahead w m) g 0 d) os) (some g) := by
  refine ⟨rfl, rfl, rfl, by simp, fun k hk hne => ?_⟩
  rw [heap_grow_old _ _ (by simpa using hk)]
  have : g ≠ k := fun e => hne (by rw [e])
  simp [putRow, mapBlock, Sort.ahead, Array.getElem?_modify, this]
theorem take_flat (cur : Array Value) (ts : List Value) (h : ts.length ≤ cur.size) : (putCells id 0 ts.toArray cur).toList.take ts.length = ts := by
  apply List.ext_getElem?
  intro j
  by_cases hj : j < ts.length
  · rw [List.getElem?_take_of_lt hj, Array.getElem?_toList]
    simp [putCells, hj, show j < cur.size by omega]
  · rw [List.getElem?_take_eq_none (by omega), List.getElem?_eq_none (by omega)]
/-- what a sort asks of a row of the call's own, and what it leaves of it -/
theorem own_flat {w : World} {B E size n : Nat} {v : Value} {xs : List Value} (hown : w.ownsRow B E size v n xs) (h0 : 0 < n) (hB : B ≤ w.heap.size) :
    ∃ g cap, v = .slice (some ⟨g, 0, none⟩) n cap ∧ g < w.heap.size ∧ Holds id w g 0 xs.toArray ∧
      ∀ m os (ys : List Value), ys.length = xs.length → (grow (putRow id (Sort.ahead w m) g 0 ys.toArray) os).ownsRow B E size v n ys ∧ Below B w (grow (putRow id (Sort.ahead w m) g 0 ys.toArray) os) := by
  rcases hown.2 with ⟨rfl, rfl⟩ | ⟨g, cap, cur, rfl, hbase, hb, h1, h2, h3, h4⟩
  · omega
  · have hxl : xs.length = n * size := hown.1
    refine ⟨g, cap, rfl, (Array.getElem?_eq_some_iff.1 hb).1, holds_flat hb hxl h4, fun m os ys hl => ⟨⟨by rw [hl]; exact hxl, .inr ⟨g, cap, _, rfl, hbase, heap_flat _ hb, h1, h2, by simp [putCells, h3], ?_⟩⟩, ?_⟩⟩
    · rw [← hxl, ← hl]
      refine take_flat cur ys ?_
      rw [hl, hxl, h3]
      exact Nat.mul_le_mul_right _ h1
    · exact (Below.refl _ _).grown (grownBy_flat _) hB fun r e => by cases e; exact hbase

/-! ### slices.SortFunc of ranks -/
theorem ltP (x y : Int × Int) : ltOf cmpP x y = decide (x.1 < y.1 ∨ x.1 = y.1 ∧ x.2 < y.2) := by
  unfold ltOf cmpP cmpI
  simp only [orI]
  by_cases h1 : x.1 < y.1
  · simp [h1]
  · by_cases h2 : y.1 < x.1
    · simp [h1, h2]; omega
    · by_cases h3 : x.2 < y.2
      · simp [h1, h2, h3]; omega
      · by_cases h4 : y.2 < x.2 <;> simp [h1, h2, h3, h4]
theorem swoP : SWO (ltOf cmpP) where
  irrefl x := by rw [ltP]; simp
  trans x y z h1 h2 := by rw [ltP] at *; simp at *; omega
  ntrans x y z h1 h2 := by rw [ltP] at *; simp at *; omega
theorem flatN (l : List (Int × Int)) : flatK encN 2 l.toArray = (l.flatMap encN).toArray := by
  refine ext_get! (by rw [size_flatK, List.size_toArray, List.size_toArray, encN_len]) fun t ht => ?_
  have ht' : t < l.length * 2 := by simpa using ht
  rw [get_flatK _ _ _ t (by simpa using ht')]
  obtain ⟨h1, h2⟩ := encN_at l (t / 2) (by omega)
  have hd : l.toArray[t / 2]! = l.getD (t / 2) (0, 0) := by
    rw [getElem!_pos _ _ (by simp; omega)]
    simp [List.getD, List.getElem?_eq_getElem (show t / 2 < l.length by omega)]
  rw [hd]
  have hlt : t < (l.flatMap encN).length := by rw [encN_len]; exact ht'
  rw [getElem!_pos (l.flatMap encN).toArray t (by rw [List.size_toArray]; exact hlt), List.getElem_toArray]
  rcases Nat.mod_two_eq_zero_or_one t with hm | hm
  · have e : t / 2 * 2 = t := by omega
    rw [e, List.getElem?_eq_getElem hlt] at h1
    injection h1 with h1
    rw [hm, h1]
    rfl
  · have e : t / 2 * 2 + 1 = t := by omega
    rw [e, List.getElem?_eq_getElem hlt] at h2
    injection h2 with h2
    rw [hm, h2]
    rfl

theorem Try.aggRank : ∀ w, (isAgg 127).run Try.prog w = .ok true w := fun w => by kernel_rfl
theorem Try.sizeRank : ∀ w, (Go.sizeOf 127).run Try.prog w = .ok 2 w := fun w => by kernel_rfl
def leP (x y : Int × Int) : Bool := !(ltOf cmpP) y x

set_option maxHeartbeats 1000000 in
theorem sortRanks_calls {B E n : Nat} {v : Value} {l : List (Int × Int)} {w : World} (hown : w.ownsRow B E 2 v n (l.flatMap encN)) (h0 : 0 < n) (hs : n ≤ 1000000) (hB : B ≤ w.heap.size) :
    Calls Try.prog 128 #[v, .func (.func 129) #[] #[]] w fun e w' => e = .returned (.tuple #[]) ∧ w'.ownsRow B E 2 v n ((l.mergeSort leP).flatMap encN) ∧ Below B w w' := by
  have hl : l.length = n := by have := hown.1; rw [encN_len] at this; omega
  obtain ⟨g, cap, rfl, hlt, hH, hafter⟩ := own_flat hown h0 hB
  have eg : ∀ args w, (callFunc 129 args).run Try.prog w = .ok (.enter 129 args) w := enters_of Try.func129 (by kernel_rfl) rfl
  have hcon := AnyQ.slices_SortFunc_total Try.sortRanks 2 Try.aggRank Try.sizeRank encN (fun _ => rfl) (fun x v hv => by simp [encN] at hv; rcases hv with rfl | rfl <;> rfl) cmpP swoP 129 #[] g 0 cap l.toArray w eg
    (fun m os dk _ x y => rankCmp_calls x.1 x.2 y.1 y.2 _)
    (by show Holds id w g 0 (flatK encN 2 l.toArray); rw [flatN]; exact hH) hlt (by simp; omega)
    (fun x y h1 h2 => by rw [ltP] at *; simp at *; exact Prod.ext (by omega) (by omega))
  change Calls Try.prog 128 _ _ _ at hcon
  rw [show l.toArray.size = n by simpa using hl] at hcon
  refine hcon.mono ?_
  rintro e w' ⟨rfl, k, os, rfl⟩
  have := hafter k os ((l.mergeSort leP).flatMap encN) (by rw [encN_len, encN_len]; simp)
  rw [← flatN] at this
  exact ⟨rfl, this⟩
end Go.Proofs.Ytoopgmoopmbfnaa
