import Derived.Test.YtahknodnjjmagaaZl
import Derived.Test.YtahknodnjjmagaaZo
import Derived.Test.YtahknodnjjmagaaZw
namespace Go.Proofs.Ytahknodnjjmagaa
open Go.RowKit Go.Proofs.Kv

/-! ### the spec of both -/
def meetK (a b : List Int) (k : Nat) : List Int := (List.range k).map fun i => if a.getD i 0 = -1 then b.getD i 0 else a.getD i 0
def meetL (a b : List Int) : List Int := meetK a b a.length
/-- no trait has two values -/
def meetB (a b : List Int) : Bool := (List.range a.length).all fun i => decide (a.getD i 0 = -1) || (decide (b.getD i 0 = -1) || decide (a.getD i 0 = b.getD i 0))
/-- what the program's row holds when k places are behind it -/
def meetS (a b : List Int) (k : Nat) : List Int := meetK a b k ++ a.drop k
theorem meetK_len (a b : List Int) (k : Nat) : (meetK a b k).length = k := by simp [meetK]
theorem meetK_at {a b : List Int} {k i : Nat} (h : i < k) : (meetK a b k).getD i 0 = if a.getD i 0 = -1 then b.getD i 0 else a.getD i 0 := by
  unfold meetK
  rw [show ∀ (f : Nat → Int), ((List.range k).map f).getD i 0 = f i from fun f => by simp [List.getD, h]]
theorem meetK_succ (a b : List Int) (k : Nat) : meetK a b (k + 1) = meetK a b k ++ [if a.getD k 0 = -1 then b.getD k 0 else a.getD k 0] := by simp [meetK, List.range_succ]
theorem meetS_len {a b : List Int} {k : Nat} (h : k ≤ a.length) : (meetS a b k).length = a.length := by rw [meetS, List.length_append, meetK_len, List.length_drop]; omega
theorem meetS_at {a b : List Int} {k : Nat} : (meetS a b k).getD k 0 = a.getD k 0 := by
  have : (meetK a b k).length ≤ k := by rw [meetK_len]; exact Nat.le_refl _
  simp only [meetS, List.getD, List.getElem?_append_right this, meetK_len, Nat.sub_self, List.getElem?_drop, Nat.add_zero]
theorem meetS_free {a b : List Int} {k : Nat} (h : k < a.length) (hf : a.getD k 0 = -1) : meetS a b (k + 1) = (meetS a b k).set k (b.getD k 0) := by
  have : a.drop k = a.getD k 0 :: a.drop (k + 1) := by rw [List.drop_eq_getElem_cons h]; simp [List.getD, List.getElem?_eq_getElem h]
  rw [meetS, meetS, this, meetK_succ, if_pos hf, List.set_append_right _ _ (by rw [meetK_len]; exact Nat.le_refl _), meetK_len, Nat.sub_self, List.set_cons_zero, List.append_assoc]; rfl
theorem meetS_held {a b : List Int} {k : Nat} (h : k < a.length) (hf : ¬ a.getD k 0 = -1) : meetS a b (k + 1) = meetS a b k := by
  have : a.drop k = a.getD k 0 :: a.drop (k + 1) := by rw [List.drop_eq_getElem_cons h]; simp [List.getD, List.getElem?_eq_getElem h]
  rw [meetS, meetS, this, meetK_succ, if_neg hf, List.append_assoc]; rfl
theorem meetS_all {a b : List Int} : meetS a b a.length = meetL a b := by rw [meetS, List.drop_length, List.append_nil]; rfl
theorem meet_holds {a b : List Int} (h : b.length = a.length) : hB b (meetL a b) = meetB a b := by
  rw [Bool.eq_iff_iff, hB_iff]
  simp only [meetB, List.all_eq_true, List.mem_range, Bool.or_eq_true, decide_eq_true_eq]
  constructor
  · intro hh i hi
    have := hh i (by omega)
    rw [meetL, meetK_at hi] at this
    by_cases ha : a.getD i 0 = -1
    · exact .inl ha
    · rw [if_neg ha] at this
      rcases this with h1 | h1
      · exact .inr (.inl h1)
      · exact .inr (.inr h1.symm)
  · intro hh i hi
    have := hh i (by omega)
    rw [meetL, meetK_at (by omega)]
    by_cases ha : a.getD i 0 = -1
    · rw [if_pos ha]; exact .inr rfl
    · rw [if_neg ha]
      rcases this with h1 | h1 | h1
      · exact absurd h1 ha
      · exact .inl h1
      · exact .inr h1.symm
theorem own_put {w : World} {B E n cap g : Nat} {l : List Int} (h : w.ownsRow B E 1 (.slice (some ⟨g, 0, none⟩) n cap) n (l.map (Value.int .i64))) (k : Nat) (x : Int) :
    (w.setCell ⟨g, k, none⟩ (.int .i64 x)).ownsRow B E 1 (.slice (some ⟨g, 0, none⟩) n cap) n ((l.set k x).map (Value.int .i64)) := by
  rw [List.map_set]
  exact (h.stored k (.int .i64 x)).1
def meetR (a b : List Int) : List Int := if meetB a b then meetL a b else []
set_option maxRecDepth 100000 in
set_option maxHeartbeats 4000000 in
theorem cemeet_calls (a1 : Option Addr) (n c1 : Nat) (a : List Int) (a2 : Option Addr) (c2 : Nat) (b : List Int) (w : World) (h1 : IntsAt w a1 n c1 a) (h2 : IntsAt w a2 n c2 b) (hn : n ≤ 1000) :
    Calls Try.prog 86 #[.slice a1 n c1, .slice a2 n c2] w fun e w' => ∃ v', e = .returned (.tuple #[v', .bool (meetB a b)]) ∧ Made 3 w w' v' (meetR a b) := by
  have HC := hid_ (clone_calls a1 n c1 a w h1 (by omega))
  have H2 := hid_ (fun W (hW : Below w.heap.size w W) => h2.below hW (Nat.le_refl _))
  have hla := h1.len
  have Hla := hid_ hla
  have HF := hid_ (fun k (hk : k < n) => @meetS_free a b k (by rw [hla]; exact hk)); have HH := hid_ (fun k (hk : k < n) => @meetS_held a b k (by rw [hla]; exact hk)); have HA := hid_ (fun k => @meetS_at a b k)
  have HS := hid_ (fun k (hk : k ≤ n) => (@meetS_len a b k (by rw [hla]; exact hk)).trans hla)
  have HL : Hid (meetS a b n = meetL a b) := hid_ (by rw [← hla]; exact meetS_all)
  have HM : Hid (hB b (meetL a b) = meetB a b) := hid_ (meet_holds (by rw [h2.len, hla]))
  have HR : Hid (meetR a b = if meetB a b then meetL a b else []) := hid_ rfl
  have H0 : Hid (meetS a b 0 = a) := hid_ rfl
  clear h1 h2 hla
  go_enter Try.func86, Try.ntmps86
  go_wp2_with (go_at_call 114; (with_reducible refine HC.out.mono ?_); rintro e w2 ⟨v2, rfl, hm⟩; have hb2 := hm.bel; have ho2 := hm.own; rw [Hla.out] at ho2; obtain ⟨a3, c3, rfl, hi3⟩ := IntsAt.own ho2; clear hm)
  have Ho2 := hid_ ho2; have Hb2 := hid_ hb2
  clear ho2 hb2 hi3
  go_loopw [13] (fun i wr => ∃ k : Nat, k ≤ n ∧ i = .int .i64 k ∧ wr.ownsRow w.heap.size 3 1 (.slice a3 n c3) n ((meetS a b k).map (Value.int .i64)) ∧ Below w.heap.size w wr) (fun i _ => n - (intOf i).toNat)
  case atStart => exact ⟨0, Nat.zero_le _, rfl, by rw [H0.out]; exact Ho2.out, Hb2.out⟩
  case round =>
    obtain ⟨k, hk, rfl, hown, hb⟩ := hrel
    have hw : w.heap.size ≤ wr.heap.size := hb.size
    by_cases hlt : k < n
    · rcases own_open hown with ⟨-, h0, -⟩ | ⟨g, cap, cur, e, hg, hgl, hgc, hcl, hnc, hcm, hct⟩
      · omega
      · injection e with e1 _ e2
        subst e1 e2
        have Hput := hid_ (fun x => own_put hown k x)
        obtain ⟨ax, cx, ex, hix⟩ := IntsAt.own hown
        injection ex with e1 _ e2
        subst e1 e2
        obtain ⟨bx, ox, ebx, -, hcell⟩ := hix.cells k hlt
        injection ebx with ebx
        injection ebx with e1 e2
        subst e1 e2
        rw [HA.out k, Nat.zero_add] at hcell
        have hfree := row_free hgc k
        obtain ⟨bb, ob, rfl, -, hcb⟩ := (H2.out wr hb).cells k hlt
        have hF := HF.out k hlt; have hH := HH.out k hlt
        have Hown := hid_ hown; have Hb := hid_ hb
        clear hown hb hix hct hgc
        generalize a.getD k 0 = x at *
        generalize b.getD k 0 = y at *
        by_cases hx : x = -1
        · have Hf := hid_ (hF hx)
          subst hx
          clear hF hH
          go_wp2
          go_roundw
          case rel => exact ⟨k + 1, by omega, by go_num, by rw [Hf.out]; exact Hput.out y, Hb.out.setCell (p := ⟨g, k, none⟩) hg _⟩
          case measure => simp [intOf]; omega
        · have Hf := hid_ (hH hx)
          have hxb : (x == -1) = false := by simpa using hx
          clear hF hH hx
          go_wp2
          go_roundw
          case rel => exact ⟨k + 1, by omega, by go_num, by rw [Hf.out]; exact Hown.out, Hb.out⟩
          case measure => simp [intOf]; omega
    · obtain rfl : n = k := by omega
      rw [HL.out] at hown
      obtain ⟨ax, cx, ex, hix⟩ := IntsAt.own hown
      injection ex with e1 _ e2
      subst e1 e2
      have HW := hid_ (ceWithin_calls a3 n c3 (meetL a b) a2 n c2 b wr hix (H2.out wr hb) (Nat.le_refl _))
      rw [HM.out] at HW
      have hlm : (meetL a b).length = n := hix.len
      have Hlm := hid_ hlm
      have Hown := hid_ hown; have Hb := hid_ hb
      clear hown hb hix hlm
      cases hz : meetB a b with
      | false =>
        have Hr : Hid (meetR a b = []) := hid_ (by rw [HR.out, hz]; rfl)
        rw [hz] at HW
        have Hz := hid_ hz
        clear hz
        go_wp2_with (go_at_call 99; (with_reducible refine HW.out.mono ?_); rintro e w5 ⟨rfl, rfl⟩)
        go_ret2
        exact ⟨_, by rw [Hz.out]; rfl, by rw [Hr.out]; exact Made.none_ _ Hb.out⟩
      | true =>
        have Hr : Hid (meetR a b = meetL a b) := hid_ (by rw [HR.out, hz]; rfl)
        rw [hz] at HW
        have Hz := hid_ hz
        clear hz
        go_wp2_with (go_at_call 99; (with_reducible refine HW.out.mono ?_); rintro e w5 ⟨rfl, rfl⟩)
        go_ret2
        exact ⟨_, by rw [Hz.out]; rfl, ⟨by rw [Hr.out, Hlm.out]; exact Hown.out, Hb.out⟩⟩
end Go.Proofs.Ytahknodnjjmagaa
