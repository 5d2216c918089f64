import Derived.Test.YtdnlpikfibdjoaaZ9
import Derived.Test.YtdnlpikfibdjoaaZvb
namespace Go.Proofs.Ytdnlpikfibdjoaa
open Go.RowKit Go.Proofs.Kv

/-! ### the smallest spec -/
def hsK (s c : List Int) (t : Nat) : List Int := (List.range s.length).map fun i => if i < t then (if c.getD i 0 = s.getD i 0 then s.getD i 0 else -1) else s.getD i 0
def hs (s c : List Int) : List Int := hsK s c s.length
def hullK (L : List (List Int)) (k : Nat) : List Int := (L.take k).foldl hs (L.getD 0 [])
def hullL (L : List (List Int)) : List Int := hullK L L.length
theorem map_getD {n i : Nat} (f : Nat → Int) (h : i < n) : ((List.range n).map f).getD i 0 = f i := by simp [List.getD, h]
theorem hsK_len (s c : List Int) (t : Nat) : (hsK s c t).length = s.length := by simp [hsK]
theorem hs_len (s c : List Int) : (hs s c).length = s.length := hsK_len s c _
theorem hsK_zero (s c : List Int) : hsK s c 0 = s := ext_getD (hsK_len s c 0) rfl fun j hj => by rw [hsK, map_getD _ hj, if_neg (by omega)]
theorem hsK_at {s c : List Int} {t : Nat} (h : t < s.length) : (hsK s c t).getD t 0 = s.getD t 0 := by rw [hsK, map_getD _ h, if_neg (by omega)]
theorem hsK_same {s c : List Int} {t : Nat} (h : c.getD t 0 = s.getD t 0) : hsK s c (t + 1) = hsK s c t := ext_getD (hsK_len s c _) (hsK_len s c _) fun j hj => by
  rw [hsK, hsK, map_getD _ hj, map_getD _ hj]
  by_cases h1 : j < t
  · rw [if_pos h1, if_pos (by omega)]
  · rw [if_neg h1]
    by_cases h2 : j = t
    · subst h2; rw [if_pos (by omega), if_pos h]
    · rw [if_neg (by omega)]
theorem hsK_other {s c : List Int} {t : Nat} (h : ¬ c.getD t 0 = s.getD t 0) : hsK s c (t + 1) = (hsK s c t).set t (-1) := ext_getD (hsK_len s c _) (by rw [List.length_set]; exact hsK_len s c _) fun j hj => by
  have hj' : j < (hsK s c t).length := by rw [hsK_len]; exact hj
  by_cases h2 : j = t
  · subst h2
    rw [hsK, map_getD _ hj, if_pos (by omega), if_neg h]
    simp [List.getD, hj']
  · have : ((hsK s c t).set t (-1)).getD j 0 = (hsK s c t).getD j 0 := by simp [List.getD, List.getElem?_set_ne (Ne.symm h2)]
    rw [this, hsK, hsK, map_getD _ hj, map_getD _ hj]
    by_cases h1 : j < t
    · rw [if_pos h1, if_pos (by omega)]
    · rw [if_neg h1, if_neg (by omega)]
theorem hs_self (s : List Int) : hs s s = s := ext_getD (hs_len s s) rfl fun j hj => by rw [hs, hsK, map_getD _ hj, if_pos hj, if_pos rfl]
theorem hullK_succ {L : List (List Int)} {k : Nat} (h : k < L.length) : hullK L (k + 1) = hs (hullK L k) (L.getD k []) := by
  rw [hullK, take_snoc _ [] k h, List.foldl_append]; rfl
theorem hullK_len (L : List (List Int)) (k : Nat) : (hullK L k).length = (L.getD 0 []).length := by
  unfold hullK
  generalize L.getD 0 [] = s
  generalize L.take k = M
  induction M generalizing s with
  | nil => rfl
  | cons x M ih => rw [List.foldl_cons, ih, hs_len]
theorem hullK_one (L : List (List Int)) : hullK L 1 = L.getD 0 [] := by
  cases L with
  | nil => rfl
  | cons x L => simp [hullK, hs_self]
set_option maxRecDepth 100000 in
set_option maxHeartbeats 4000000 in
theorem cehull_calls (a : Option Addr) (m c : Nat) (L : List (List Int)) (n : Nat) (w : World) (h : ListsAt w a m c L) (h0 : 0 < m) (hn : ∀ k, k < m → (L.getD k []).length = n) (hn3 : n ≤ 1000) :
    Calls Try.prog 73 #[.slice a m c] w fun e w' => ∃ v', e = .returned v' ∧ Made 3 w w' v' (hullL L) := by
  have hm : m ≤ 9223372036854775807 := Nat.le_trans h.le h.small
  obtain ⟨b, off, a1, n1, c1, rfl, -, hc0, hr0⟩ := h.cells 0 h0
  have e1 : n1 = n := by rw [← hr0.len, hn 0 h0]
  subst e1
  have HC := hid_ (clone_calls a1 n1 c1 _ w hr0 (by omega))
  have HL := hid_ h
  rw [Nat.add_zero] at hc0
  have HN := hid_ hn
  have HS := hid_ (fun k (hk : k < m) => @hullK_succ L k (by rw [h.len]; exact hk))
  have HK := hid_ (fun k => (hullK_len L k).trans (hn 0 h0))
  have HA : Hid (hullK L m = hullL L) := hid_ (by rw [hullL, h.len])
  have H0 : Hid (hullK L 0 = L.getD 0 []) := hid_ rfl
  have hz : (0 : Int) < (m : Int) := by omega
  have hz0 : (L.getD 0 []).length = n1 := hn 0 h0
  have Hz0 := hid_ hz0
  clear h hn hr0 h0 hz0
  go_enter Try.func73, Try.ntmps73
  go_wp2_with (go_at_call 109; (with_reducible refine HC.out.mono ?_); rintro e w2 ⟨v2, rfl, hm2⟩; have hb2 := hm2.bel; have ho2 := hm2.own; rw [Hz0.out] at ho2; obtain ⟨a3, c3, rfl, -⟩ := IntsAt.own ho2; clear hm2)
  have Ho2 := hid_ ho2; have Hb2 := hid_ hb2
  clear ho2 hb2
  go_loopw [14] (fun i wr => ∃ k : Nat, k ≤ m ∧ i = .int .i64 k ∧ wr.ownsRow w.heap.size 3 1 (.slice a3 n1 c3) n1 ((hullK L k).map (Value.int .i64)) ∧ Below w.heap.size w wr) (fun i _ => m - (intOf i).toNat)
  case atStart => exact ⟨0, Nat.zero_le _, rfl, by rw [H0.out]; exact Ho2.out, Hb2.out⟩
  case round =>
    obtain ⟨k, hk, rfl, hown, hb⟩ := hrel
    by_cases hlt : k < m
    · obtain ⟨b', off', a4, n4, c4, e, -, hckw, hrk⟩ := HL.out.cells k hlt
      injection e with e
      injection e with e1 e2
      subst e1 e2
      have e4 : n4 = n1 := by rw [← hrk.len]; exact HN.out k hlt
      subst e4
      have Hs := hid_ (HS.out k hlt)
      have hsl := HK.out k
      have hck := cell_below hckw hb
      have hcl : (L.getD k []).length = n4 := HN.out k hlt
      have HRk := hid_ (fun W (hW : Below w.heap.size w W) => hrk.below hW (Nat.le_refl _))
      generalize hullK L k = s at *
      generalize L.getD k [] = cl at *
      have HX := hid_ (fun t => @hsK_same s cl t); have HY := hid_ (fun t => @hsK_other s cl t); have HT := hid_ (fun t (ht : t < n4) => @hsK_at s cl t (by omega))
      have HZ := hid_ (hsK_zero s cl)
      have HF : Hid (hsK s cl n4 = hs s cl) := hid_ (by rw [hs, hsl])
      have Hown := hid_ hown; have Hb := hid_ hb
      clear hown hb hrk hsl hcl hckw
      go_wp2
      obtain ⟨wm, rfl⟩ : ∃ wm : World, wm = wr := ⟨_, rfl⟩
      go_loopw [20] (fun i wr => ∃ t : Nat, t ≤ n4 ∧ i = .int .i64 t ∧ wr.ownsRow w.heap.size 3 1 (.slice a3 n4 c3) n4 ((hsK s cl t).map (Value.int .i64)) ∧ Below w.heap.size w wr) (fun i _ => n4 - (intOf i).toNat)
      case atStart => exact ⟨0, Nat.zero_le _, rfl, by rw [HZ.out]; exact Hown.out, Hb.out⟩
      case round =>
        obtain ⟨t, ht, rfl, hown2, hb2⟩ := hrel
        by_cases hlt2 : t < n4
        · rcases own_open hown2 with ⟨-, h0, -⟩ | ⟨g, cap, cur, e, hg, hgl, hgc, hcl2, hnc, hcm, hct⟩
          · omega
          · injection e with e1 _ e2
            subst e1 e2
            have Hput := hid_ (fun x => own_put hown2 t x)
            obtain ⟨ax, cx, ex, hix⟩ := IntsAt.own hown2
            injection ex with e1 _ e2
            subst e1 e2
            obtain ⟨bx, ox, ebx, -, hcell⟩ := hix.cells t hlt2
            injection ebx with ebx
            injection ebx with e1 e2
            subst e1 e2
            rw [HT.out t hlt2, Nat.zero_add] at hcell
            have hfree := row_free hgc t
            obtain ⟨b4, o4, rfl, -, hc4⟩ := (HRk.out wr hb2).cells t hlt2
            have hX := HX.out t; have hY := HY.out t
            have Hown2 := hid_ hown2; have Hb2' := hid_ hb2
            have hgw : w.heap.size ≤ g := hg
            clear hown2 hb2 hix hgc hct
            generalize cl.getD t 0 = x at *
            generalize s.getD t 0 = y at *
            by_cases hxy : x = y
            · have Hf := hid_ (hX hxy)
              subst hxy
              clear hX hY
              go_wp2
              go_roundw
              case rel => exact ⟨t + 1, by omega, by go_num, by rw [Hf.out]; exact Hown2.out, Hb2'.out⟩
              case measure => simp [intOf]; omega
            · have Hf := hid_ (hY hxy)
              have hxb : (x != y) = true := by simpa using hxy
              clear hX hY hxy
              go_wp2
              go_roundw
              case rel => exact ⟨t + 1, by omega, by go_num, by rw [Hf.out]; exact Hput.out (-1), Hb2'.out.setCell (p := ⟨g, t, none⟩) hgw _⟩
              case measure => simp [intOf]; omega
        · obtain rfl : n4 = t := by omega
          rw [HF.out, ← Hs.out] at hown2
          have Hown2 := hid_ hown2; have Hb2' := hid_ hb2
          clear hown2 hb2
          go_wp2
          go_roundw
          case rel => exact ⟨k + 1, by omega, by go_num, Hown2.out, Hb2'.out⟩
          case measure => simp [intOf]; omega
    · obtain rfl : m = k := by omega
      rw [HA.out] at hown
      have Hl := hid_ (HK.out m)
      rw [HA.out] at Hl
      go_wp2
      go_ret
      exact ⟨_, rfl, ⟨by rw [Hl.out]; exact hown, hb⟩⟩
end Go.Proofs.Ytdnlpikfibdjoaa
