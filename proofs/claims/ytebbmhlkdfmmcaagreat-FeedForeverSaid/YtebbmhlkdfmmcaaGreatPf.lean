import Derived.Test.YtebbmhlkdfmmcaaGreatPae
import Derived.Test.YtebbmhlkdfmmcaaGreatRz
import Derived.Test.YtebbmhlkdfmmcaaGreatBz
import Derived.Test.YtebbmhlkdfmmcaaGreatKa
import Derived.Shelf.Abstract
import Derived.Shelf.RegionOpen
import Derived.OwnWalkIn
import Derived.TacticsInMore
import Derived.LoopNIn
import Derived.LoopIn
import Derived.Sort.LoopGhostIn
namespace Go.Proofs.YtebbmhlkdfmmcaaGreat
open Go.RowKit Go.Proofs.Kv

/-! ### put -/
theorem cell_one {W : World} {b : Nat} {v : Value} {T : TypeId} (h : W.heap[b]? = some (.cells #[v] T (0, 0))) : W.cell? ⟨b, 0, none⟩ = some v := by
  unfold World.cell?
  simp only [h]
  rfl
theorem heap_set_one {W : World} {b : Nat} {v u : Value} {T : TypeId} (h : W.heap[b]? = some (.cells #[v] T (0, 0))) : (W.setCell ⟨b, 0, none⟩ u).heap[b]? = some (.cells #[u] T (0, 0)) := by
  simp only [World.setCell, Array.getElem?_modify, if_true, h]
  rfl
/-- how many sounds a rule takes -/
def tkN (R : Rl) : Nat := if R.f = -1 then 0 else 1
theorem tk_eq (R : Rl) : tk R = (tkN R : Int) := by unfold tk tkN; split <;> rfl
/-- the word with To at some places, the last one first -/
def putAll (R : Rl) (at_ : List Int) (l : List Int) : List Int := at_.foldr (fun p v => putL v p.toNat (p.toNat + tkN R) R.o) l
/-- places that may be changed one after another, from the last one on -/
def PutOk (R : Rl) (at_ : List Int) (l : List Int) : Prop := at_.Pairwise (· < ·) ∧ ∀ p ∈ at_, 0 ≤ p ∧ p.toNat + tkN R ≤ l.length
theorem putL_length {v : List Int} {i j : Nat} {o : List Int} (hi : i ≤ j) (hj : j ≤ v.length) : (putL v i j o).length = v.length - (j - i) + o.length := by
  unfold putL
  simp only [List.length_append, List.length_take, List.length_drop]
  omega
/-- behind the last k places: long enough for those before -/
theorem putAll_bd {R : Rl} {l : List Int} : ∀ {at_ : List Int}, PutOk R at_ l → (∀ p ∈ at_.head?, p.toNat ≤ (putAll R at_ l).length) ∧ (putAll R at_ l).length ≤ l.length + at_.length * R.o.length ∧ (at_ = [] → (putAll R at_ l).length = l.length)
  | [], _ => ⟨by simp, by simp [putAll], fun _ => rfl⟩
  | p :: at_, h => by
    have ht : PutOk R at_ l := ⟨h.1.of_cons, fun q hq => h.2 q (by simp [hq])⟩
    obtain ⟨h1, h2, h3⟩ := putAll_bd ht
    have hp := h.2 p (by simp)
    have hj : p.toNat + tkN R ≤ (putAll R at_ l).length := by
      cases at_ with
      | nil => rw [h3 rfl]; exact hp.2
      | cons q at_ =>
        have hq := h1 q (by simp)
        have hlt : p < q := (List.pairwise_cons.1 h.1).1 q (by simp)
        have : tkN R ≤ 1 := by unfold tkN; split <;> omega
        omega
    have e : putAll R (p :: at_) l = putL (putAll R at_ l) p.toNat (p.toNat + tkN R) R.o := rfl
    have hl := putL_length (o := R.o) (show p.toNat ≤ p.toNat + tkN R by omega) hj
    rw [e, hl]
    refine ⟨?_, ?_, by simp⟩
    · intro x hx
      simp at hx
      subst hx
      omega
    · rw [List.length_cons, Nat.succ_mul]; omega
theorem putAll_fit {R : Rl} {l : List Int} {p : Int} {at_ : List Int} (h : PutOk R (p :: at_) l) : p.toNat + tkN R ≤ (putAll R at_ l).length := by
  obtain ⟨h1, h2, h3⟩ := putAll_bd (R := R) (at_ := at_) (l := l) ⟨h.1.of_cons, fun q hq => h.2 q (by simp [hq])⟩
  have hp := h.2 p (by simp)
  cases at_ with
  | nil => rw [h3 rfl]; exact hp.2
  | cons q at_ =>
    have hq := h1 q (by simp)
    have hlt : p < q := (List.pairwise_cons.1 h.1).1 q (by simp)
    have : tkN R ≤ 1 := by unfold tkN; split <;> omega
    omega
theorem PutOk.drop {R : Rl} {l : List Int} : ∀ {at_ : List Int} (k : Nat), PutOk R at_ l → PutOk R (at_.drop k) l := fun _ h => ⟨h.1.sublist (List.drop_sublist _ _), fun p hp => h.2 p (List.mem_of_mem_drop hp)⟩
def putErr (R : Rl) (at_ l : List Int) : Int := if 8 < (putAll R at_ l).length then 3 else 0
def putRes (R : Rl) (at_ l : List Int) : List Int := if 8 < (putAll R at_ l).length then [] else putAll R at_ l

attribute [local go_sem] Oper.semAt_some
set_option maxRecDepth 100000 in
set_option maxHeartbeats 2000000 in
theorem put_calls (v : Value) (R : Rl) (a : Option Addr) (n c : Nat) (l : List Int) (a' : Option Addr) (n' c' : Nat) (at_ : List Int) (w : World) (hr : RuleAt w v R) (h : IntsAt w a n c l) (h' : IntsAt w a' n' c' at_)
    (hn : n ≤ 1000) (hn' : n' ≤ 1000) (ho : R.o.length ≤ 2) (hok : PutOk R at_ l) :
    Calls Tryz.prog 107 #[v, .slice a n c, .slice a' n' c'] w fun e w' => ∃ v', e = .returned (.tuple #[v', .int .i64 (putErr R at_ l)]) ∧ Made 3 w w' v' (putRes R at_ l) := by
  have Hr := hid_ hr
  obtain ⟨a1, n1, c1, a2, n2, c2, a3, n3, c3, rfl, h1, h2, h3⟩ := hr
  obtain ⟨w1, hw1⟩ : ∃ w1, w.alloc (.cells #[.int .i64 R.f, .slice a1 n1 c1, .slice a2 n2 c2, .slice a3 n3 c3] 44) = w1 := ⟨_, rfl⟩
  have Hb1 : Hid (Below w.heap.size w w1) := hid_ (by rw [← hw1]; exact below_alloc _ _)
  have Hs1 : Hid (w1.heap.size = w.heap.size + 1) := hid_ (by rw [← hw1]; simp)
  have Hcl := hid_ (clone_calls a n c l w1 (h.below Hb1.out (Nat.le_refl _)) (by omega))
  refine (callsIn_wide (n := 9)).1 ?_
  refine callsIn_of_wp_marks Tryz.func107 rfl trivial ?_ rfl
  simp only [Tryz.ntmps107, List.size_toArray, List.length_cons, List.length_nil, Nat.reduceAdd, Nat.reduceSub, Array.replicate_succ, Array.replicate_zero, List.push_toArray, List.append_toArray, List.nil_append, List.cons_append]
  gi_wp2
  have Hw1 := hid_ hw1; clear hw1
  refine ⟨trivial, (callsIn_wide.2 Hcl.out).mono ?_⟩
  rintro e w2 ⟨v0, rfl, hm2⟩
  obtain ⟨a4, c4, hv0, -⟩ := hm2.at_
  subst hv0
  gi_wp2
  refine ⟨trivial, (callsIn_wide.2 (backward_calls _ _ _ _)).mono ?_⟩
  rintro e w4 ⟨rfl, hw4⟩
  gi_wp2
  obtain ⟨W0, hW0⟩ : ∃ W0, (w2.alloc (.cells #[.slice a4 l.length c4] 23)).alloc (.cells #[.slice a' n' c'] 23) = W0 := ⟨_, rfl⟩
  have hs0 : W0.heap.size = w2.heap.size + 2 := by rw [← hW0]; simp
  have hV : W0.heap[w2.heap.size]? = some (.cells #[.slice a4 l.length c4] 23 (0, 0)) := by
    rw [← hW0, Below.heap_alloc _ _ _ (by simp)]
    show (w2.heap.push _)[w2.heap.size]? = _
    simp
  have hA : W0.heap[w2.heap.size + 1]? = some (.cells #[.slice a' n' c'] 23 (0, 0)) := by
    rw [← hW0]
    have := World.alloc_heap_new (w2.alloc (.cells #[.slice a4 l.length c4] 23)) (.cells #[.slice a' n' c'] 23)
    rwa [World.size_alloc] at this
  have hb20 : Below w2.heap.size w2 W0 := by rw [← hW0]; exact (below_alloc w2 _).alloc (by simp) _
  have hb2 := hm2.bel
  have hown0 := own_below hm2.own hb20 (Nat.le_refl _)
  have hs2 := hb2.size
  have hb10 : Below w1.heap.size w1 W0 := hb2.trans (hb20.mono hs2)
  simp only [hW0]
  have HW0 := hid_ hW0
  have HS2 := hid_ hs2
  have Hs0 := hid_ hs0
  have HlA := hid_ h'.len
  have HatOk := hid_ hok
  have HA' := hid_ (fun W (hW : Below w1.heap.size w1 W) => (h'.below Hb1.out (Nat.le_refl _)).below hW (Nat.le_refl _))
  have HRW := hid_ (fun W (hW : Below w1.heap.size w1 W) => (Hr.out.below Hb1.out (Nat.le_refl _)).below hW (Nat.le_refl _))
  have Hto := hid_ (fun W (hW : Below w1.heap.size w1 W) => (h1.below Hb1.out (Nat.le_refl _)).below hW (Nat.le_refl _))
  have Hto0 := hid_ (fun (h0 : 0 < n1) b off (e : a1 = some ⟨b, off, none⟩) => show b < w1.heap.size from by
    obtain ⟨b', off', e', hb', _⟩ := (h1.below Hb1.out (Nat.le_refl _)).cells 0 h0
    rw [e] at e'; injection e' with e'; injection e' with e1 _; omega)
  have Hol := hid_ (h1.len)
  have Hll := hid_ (h.len)
  clear hW0 hs2 h h' hok h1 h2 h3 hs0 hw4
  refine wpIn_rangeFunc_args (F := Fence.wide) (n := 9) rfl (by omega) (gf := 121) (lb := #[.pointer (some ⟨w2.heap.size + 1, 0, none⟩)]) rfl trivial (enters_of Tryz.func121 (by kernel_rfl) rfl)
    (backward_iter ⟨w2.heap.size + 1, 0, none⟩ a' n' c' at_ 8 (by omega)) (fun k => rfl)
    (fun k W => ∃ vk : Value, ((W.heap[w2.heap.size]? = some (.cells #[vk] 23 (0, 0)) ∧ W.heap[w2.heap.size + 1]? = some (.cells #[.slice a' n' c'] 23 (0, 0))) ∧ Below w1.heap.size w1 W) ∧
      W.ownsRow w1.heap.size 3 1 vk (putAll R (at_.drop (n' - k)) l).length ((putAll R (at_.drop (n' - k)) l).map (Value.int .i64)) ∧ (vk.ownBlock ≠ some w2.heap.size ∧ vk.ownBlock ≠ some (w2.heap.size + 1)))
    (fun _ _ _ => False)
    ?hIG ?hI ?hIx ?h0
    (fun k => { tmps := #[.agg #[.int .i64 R.f, .slice a1 n1 c1, .slice a2 n2 c2, .slice a3 n3 c3], .slice a n c, .slice a' n' c', .pointer (some ⟨w.heap.size, 0, none⟩), undef, undef, .slice none 0 0, .int .i64 0, .pointer (some ⟨w2.heap.size, 0, none⟩), undef, .int .i64 (nth at_ (n' - 1 - k)), .slice a n c, .slice a4 l.length c4, .slice a' n' c',
        .func (.func 121) #[] #[.pointer (some ⟨w2.heap.size + 1, 0, none⟩)], .int .i64 ((n' : Int) - 1 - k), .int .i64 (nth at_ (n' - 1 - k)), undef, undef, undef, undef, undef, undef, undef, undef, undef, undef, undef, undef, undef], defers := [] })
    ?hassign ?hbody ?hdone ?hstop
  case hIG =>
    rintro k A ⟨vk, ⟨⟨-, hA⟩, hb⟩, -⟩
    refine ⟨?_, HA'.out _ hb⟩
    unfold World.cell?
    rw [hA]
    rfl
  case hI => exact fun k => StaysN.ex fun vk => StaysN.and (StaysN.and (StaysN.and (StaysN.block rfl) (StaysN.block rfl)) (StaysN.below (by have := Hs0.out; have := HS2.out; omega) (Nat.le_refl _))) (StaysN.and StaysN.own StaysN.pure)
  case hIx => exact fun c k => fun _ _ _ h _ _ => h
  case h0 =>
    refine ⟨_, ⟨⟨hV, hA⟩, hb10⟩, ?_, ?_, ?_⟩
    · rw [Nat.sub_zero, List.drop_of_length_le (by rw [HlA.out]; exact Nat.le_refl _)]
      exact hown0
    · intro e
      have := (hm2.own.lt _ e).2
      omega
    · intro e
      have := (hm2.own.lt _ e).2
      omega
  case hassign =>
    intro y k W K hk hK
    gi_wp2
    exact hK
  case hstop => exact fun _ _ _ _ _ _ h => h.elim
  case hbody =>
    rintro y k W ⟨vk, ⟨⟨hV, hA⟩, hb⟩, hown, hne1, hne2⟩ hk
    obtain ⟨pn, hpn⟩ : ∃ pn : Nat, nth at_ (n' - 1 - k) = (pn : Int) := by
      have := (HatOk.out.2 (nth at_ (n' - 1 - k)) (getD_mem (by rw [HlA.out]; omega))).1
      exact ⟨(nth at_ (n' - 1 - k)).toNat, by omega⟩
    have hdrop : at_.drop (n' - (k + 1)) = (pn : Int) :: at_.drop (n' - k) := by
      rw [List.drop_eq_getElem_cons (by rw [HlA.out]; omega), show n' - (k + 1) + 1 = n' - k by omega]
      congr 1
      rw [← hpn, show n' - 1 - k = n' - (k + 1) by omega, nth, List.getD, List.getElem?_eq_getElem (by rw [HlA.out]; omega)]
      rfl
    have hok1 : PutOk R ((pn : Int) :: at_.drop (n' - k)) l := by rw [← hdrop]; exact HatOk.out.drop _
    have hfit := putAll_fit hok1
    have hlen := (putAll_bd (R := R) (l := l) (HatOk.out.drop (n' - k))).2.1
    have hnxt : putAll R (at_.drop (n' - (k + 1))) l = putL (putAll R (at_.drop (n' - k)) l) pn (pn + tkN R) R.o := by rw [hdrop]; rfl
    have hdl : (at_.drop (n' - k)).length * R.o.length ≤ 1000 * 2 := Nat.mul_le_mul (by rw [List.length_drop, HlA.out]; omega) ho
    rw [Int.toNat_natCast] at hfit
    generalize putAll R (at_.drop (n' - k)) l = L at hown hfit hlen hnxt
    have htk : tkN R ≤ 1 := by unfold tkN; split <;> omega
    have hbw : w1.heap.size ≤ W.heap.size := hb.size
    have hVc : W.cell? ⟨w2.heap.size, 0, none⟩ = some vk := by unfold World.cell?; rw [hV]; rfl
    have hVf : W.frozen? ⟨w2.heap.size, 0, none⟩ = false := row_free hV 0
    obtain ⟨k0, k1, k2, k3⟩ := box4 Hw1.out hb
    have e0 := cell_regrown k0
    have e1 := cell_regrown k1
    have e2 := cell_regrown k2
    have e3 := cell_regrown k3
    have eV := cell_regrown hVc
    have htc := hid_ (fun d os => taken_calls _ R _ ((HRW.out W hb).grown d os))
    rw [tk_eq] at htc
    have hw1 : IntKind.i64.wrap ((pn : Int) + (tkN R : Int)) = (pn : Int) + tkN R := IntWalk.i64_in _ (by have := Hll.out; omega)
    have hrep : Hid (∀ wq : World, Below W.heap.size W wq → Calls Tryz.prog 117 #[vk, .int .i64 pn, .int .i64 ((pn : Int) + tkN R), .slice a1 n1 c1] wq fun e w' => OwnPost w1.heap.size (L.length - tkN R + n1) (putL L pn (pn + tkN R) R.o) vk.ownBlock wq e w') := hid_ (fun wq hwq => by
      have := replace_calls (own_grown hown hwq) (Nat.le_trans hbw hwq.size) (show pn ≤ pn + tkN R by omega) hfit (Hto.out wq (hb.trans (hwq.mono hbw))) Hto0.out (by have := Hol.out; have := Hll.out; omega)
      rw [show ((pn + tkN R : Nat) : Int) = (pn : Int) + tkN R by omega] at this
      exact this.mono fun e w' h => h.at_ (by omega) rfl)
    have HVV := hid_ hV; have HAA := hid_ hA; have Hbb := hid_ hb; have Hown := hid_ hown
    have Hfit := hid_ hfit; have Hnxt := hid_ hnxt; have Hlen := hid_ hlen
    rw [hpn]
    clear hpn hdrop hok1 hV hA hb hown hfit hlen hnxt hdl k0 k1 k2 k3 hVc hVf
    refine wpIn_block ?_
    refine wpIn_tail_round 8 (by rintro ⟨_, _, h⟩; exact h) (by kernel_rfl) (by kernel_rfl) (by kernel_rfl) ?_
    simp only [List.take_succ_cons, List.take_zero, List.drop_succ_cons, List.drop_zero]
    repeat (first | go_big_quiet_skip | (go_big_quiet_want; go_big_quiet_op; first | go_big_quiet_on | go_big_quiet_call ((go_at_call 118; exact Calls.regrown_of (htc.out _ _)))))
    refine wpQuiet_nil ?_
    rintro wq ⟨pq, hpq⟩
    have hbq := below_wq hpq
    have hrq := hid_ (hrep.out wq hbq)
    have HVq : Hid (wq.heap[w2.heap.size]? = some (.cells #[vk] 23 (0, 0))) := hid_ (by rw [hbq.block _ (Array.getElem?_eq_some_iff.1 HVV.out).1]; exact HVV.out)
    have HAq : Hid (wq.heap[w2.heap.size + 1]? = some (.cells #[.slice a' n' c'] 23 (0, 0))) := hid_ (by rw [hbq.block _ (Array.getElem?_eq_some_iff.1 HAA.out).1]; exact HAA.out)
    have Hbq := hid_ hbq
    clear hpq hbq e0 e1 e2 e3 eV hrep
    go_wp2_with (go_at_call 117; refine hrq.out.mono ?_; rintro e w5 ⟨v', rfl, hown', hg', hrow'⟩; obtain ⟨a9, c9, rfl, -⟩ := IntsAt.own hown'; have hV5 : w5.heap[w2.heap.size]? = some (.cells #[vk] 23 (0, 0)) := (hg'.block _ (Array.getElem?_eq_some_iff.1 HVq.out).1 (fun e => hne1 e.symm)).trans HVq.out; have hc5 : w5.cell? ⟨w2.heap.size, 0, none⟩ = some vk := cell_one hV5; have hf5 := row_free hV5 0)
    have hA5 : w5.heap[w2.heap.size + 1]? = some (.cells #[.slice a' n' c'] 23 (0, 0)) :=
      (hg'.block _ (Array.getElem?_eq_some_iff.1 HAq.out).1 (fun e => hne2 e.symm)).trans HAq.out
    have hlo : ∀ j, some j = vk.ownBlock → w1.heap.size ≤ j := fun j e => (Hown.out.lt j e.symm).1
    have hb5 : Below w1.heap.size w1 w5 := (Hbb.out.trans (Hbq.out.mono hbw)).grown hg' (Nat.le_trans hbw Hbq.out.size) fun j e => hlo j e.symm
    have hne : ∀ o : Obj, ∀ j, W.heap[j]? = some o → o.isCells = false → some j ≠ vk.ownBlock := fun o j hj ho e => by
      rcases Hown.out.2 with ⟨rfl, _⟩ | ⟨g, cap, cur, rfl, _, hg0, _⟩
      · simp [Value.ownBlock] at e
      · simp [Value.ownBlock] at e
        subst e
        rw [hg0] at hj
        injection hj with hj
        subst hj
        simp [Obj.isCells] at ho
    have hq1 := Nat.lt_of_lt_of_le (Array.getElem?_eq_some_iff.1 HVV.out).1 Hbq.out.size
    have hq2 := Nat.lt_of_lt_of_le (Array.getElem?_eq_some_iff.1 HAA.out).1 Hbq.out.size
    have hnv : ∀ b, vk.ownBlock ≠ some b → b < wq.heap.size → Value.ownBlock (.slice a9 (L.length - tkN R + n1) c9) ≠ some b := fun b hb1 hb2 e => by
      rcases hrow' with h | ⟨g, h, hg⟩
      · exact hb1 (h ▸ e)
      · rw [h] at e; injection e with e; omega
    have hgs : w5.grownBy (w5.setCell ⟨w2.heap.size, 0, none⟩ (.slice a9 (L.length - tkN R + n1) c9)) (some w2.heap.size) := grown_setCells [.slice a9 (L.length - tkN R + n1) c9] 0 (grown_refl _ _)
    refine ⟨KeepsOthers.trans ⟨Nat.le_trans Hbq.out.size hg'.size, fun j o hj ho => ?_⟩ (KeepsOthers.setCell _ _ _), .slice a9 (L.length - tkN R + n1) c9, ⟨⟨?_, ?_⟩, ?_⟩, ?_, ?_, ?_⟩
    · have hjl := (Array.getElem?_eq_some_iff.1 hj).1
      rw [hg'.block j (Nat.lt_of_lt_of_le hjl Hbq.out.size) (hne o j hj ho), Hbq.out.block j hjl]
      exact hj
    · exact heap_set_one hV5
    · rw [Below.heap_setCell _ _ _ _ (by simp)]; exact hA5
    · exact hb5.setCell (by exact HS2.out) _
    · have hl : (putL L pn (pn + tkN R) R.o).length = L.length - tkN R + n1 := by
        rw [putL_length (by omega) Hfit.out, Hol.out]; omega
      rw [Hnxt.out, hl]
      exact World.ownsRow.kept hown' hgs (.inr (hnv _ hne1 hq1))
    · exact hnv _ hne1 hq1
    · exact hnv _ hne2 hq2
  case hdone =>
    rintro D W hD ⟨vk, ⟨⟨hV, hA⟩, hb⟩, hown, -, -⟩ hK
    rw [Nat.sub_self, List.drop_zero] at hown
    obtain ⟨a9, c9, rfl, -⟩ := IntsAt.own hown
    have hVc := cell_one hV
    have hBw : Below w.heap.size w W := Hb1.out.trans (hb.mono Hb1.out.size)
    have hbd : ∀ W' : World, W.grownBy W' (some D) → Below w.heap.size w W' := fun W' hg => hBw.grown hg hBw.size fun j e => by injection e with e; have := Hs0.out; have := HS2.out; have := Hs1.out; omega
    have hDc : ∀ j, some D = some j → ∃ o : Obj, W.heap[j]? = some o ∧ o.isCells = false := fun j e => by cases e; exact ⟨_, hK, rfl⟩
    have hown2 : (W.putObj D (.deferred none)).ownsRow w1.heap.size 3 1 (.slice a9 (putAll R at_ l).length c9) (putAll R at_ l).length ((putAll R at_ l).map (Value.int .i64)) :=
      StaysN.own (B := 0) W _ (some D) hown (grownBy_putObj' W D (.deferred none)) fun j e => ⟨Nat.zero_le _, hDc j e⟩
    have hb2 := hbd _ (grownBy_putObj' W D (.deferred none))
    have Hown2 := hid_ hown2; have Hb2 := hid_ hb2
    by_cases h8 : 8 < (putAll R at_ l).length
    · have He : Hid (putErr R at_ l = 3) := hid_ (if_pos h8)
      have Hr : Hid (putRes R at_ l = []) := hid_ (if_pos h8)
      have h8' : decide ((8 : Int) < ((putAll R at_ l).length : Int)) = true := by simp; omega
      clear hV hA hb hown hBw hbd hown2 hb2
      generalize putAll R at_ l = L at *
      gi_wp2
      refine ⟨by simp, .inl ⟨_, _, rfl, run_takeDeferred hK, ?_⟩⟩
      refine ⟨.tuple #[.slice none 0 0, .int .i64 3], by simp [results, Tryz.results107, go_sem], ?_⟩
      exact ⟨.slice none 0 0, by rw [He.out], by rw [Hr.out]; exact Made.none_ _ Hb2.out⟩
    · have He : Hid (putErr R at_ l = 0) := hid_ (if_neg h8)
      have Hr : Hid (putRes R at_ l = putAll R at_ l) := hid_ (if_neg h8)
      have h8' : decide ((8 : Int) < ((putAll R at_ l).length : Int)) = false := by simp; omega
      clear hV hA hb hown hBw hbd hown2 hb2
      generalize putAll R at_ l = L at *
      gi_wp2
      refine ⟨by simp, .inl ⟨_, _, rfl, run_takeDeferred hK, ?_⟩⟩
      refine ⟨.tuple #[.slice a9 L.length c9, .int .i64 0], by simp [results, Tryz.results107, go_sem], ?_⟩
      exact ⟨.slice a9 L.length c9, by rw [He.out], by rw [Hr.out]; exact ⟨own_base Hown2.out Hb1.out.size, Hb2.out⟩⟩
end Go.Proofs.YtebbmhlkdfmmcaaGreat
