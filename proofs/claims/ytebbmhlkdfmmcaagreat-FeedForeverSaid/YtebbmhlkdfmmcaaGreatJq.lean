import Derived.Test.YtebbmhlkdfmmcaaGreatJp
import Derived.Laws.BytesArg
import Derived.RegionTactic
namespace Go.Proofs.YtebbmhlkdfmmcaaGreat
open Go.RowKit Go.Proofs.Kv

/-! ### the errors of a system and words -/
def firstW : List (List Int) → Int
  | [] => 0
  | l :: L => if validW l = 0 then firstW L else validW l
def errSW (L : List Rl) (ws : List (List Int)) : Int := if validS L = 0 then firstW ws else validS L
theorem firstW_drop {L : List (List Int)} {k : Nat} (hk : k < L.length) : firstW (L.drop k) = if validW (L.getD k []) = 0 then firstW (L.drop (k + 1)) else validW (L.getD k []) := by
  have e : L.getD k [] = L[k] := by simp [List.getD, List.getElem?_eq_getElem hk]
  rw [List.drop_eq_getElem_cons hk, firstW, e]
set_option maxRecDepth 100000 in
set_option maxHeartbeats 4000000 in
theorem feValid_calls (A : Option Addr) (N C : Nat) (L : List Rl) (a : Option Addr) (n c : Nat) (ws : List (List Int)) (w : World) (h : RulesAt w A N C L) (h' : ListsAt w a n c ws) :
    Calls Tryz.prog 36 #[.slice A N C, .slice a n c] w fun e w' => e = .returned (.int .i64 (errSW L ws)) ∧ Below w.heap.size w w' := by
  have HV := hid_ (feValidate_calls A N C L w h)
  have hn : n ≤ 9223372036854775807 := Nat.le_trans h'.le h'.small
  by_cases hs : validS L = 0
  · have Hf : Hid (errSW L ws = firstW ws) := hid_ (by rw [errSW, if_pos hs])
    have HD := hid_ (fun k hk => @firstW_drop ws k hk)
    have HE : Hid (firstW (ws.drop n) = 0) := hid_ (by rw [List.drop_eq_nil_of_le (by rw [h'.len]; exact Nat.le_refl _)]; rfl)
    have HLn := hid_ h'.len
    rw [hs] at HV
    clear hs h
    go_enter Tryz.func36, Tryz.ntmps36
    go_wp2_with (go_at_call 47; (with_reducible refine HV.out.mono ?_); rintro e w3 ⟨rfl, hb3⟩)
    go_loop [16] (fun i => ∃ k : Nat, k ≤ n ∧ i = .int .i64 k ∧ firstW ws = firstW (ws.drop k)) (fun i => n - (intOf i).toNat)
    case atStart => exact ⟨0, Nat.zero_le _, rfl, rfl⟩
    case round =>
      obtain ⟨k, hk, rfl, hd⟩ := hrel
      by_cases hlt : k < n
      · obtain ⟨b, off, a1, n1, c1, rfl, hb, hcell, hrow⟩ := (h'.below hb3 (Nat.le_refl _)).cells k hlt
        have hdd := HD.out k (by rw [HLn.out]; exact hlt)
        rw [hdd] at hd
        clear hdd
        generalize ws.getD k [] = l at *
        have HW := hid_ (ruValidateWord_calls _ _ _ l w3 hrow)
        by_cases hv : validW l = 0
        · rw [if_pos hv] at hd
          rw [hv] at HW
          have Hd := hid_ hd
          clear hv hd
          go_wp2_with (go_at_call 56; (with_reducible refine HW.out.mono ?_); rintro e w6 ⟨rfl, rfl⟩)
          go_round
          case rel => exact ⟨k + 1, by omega, by go_num, Hd.out⟩
          case measure => simp [intOf]; omega
        · rw [if_neg hv] at hd
          have hq : (validW l != 0) = true := by simpa using hv
          generalize validW l = x at *
          have Hd := hid_ hd
          clear hv hd
          go_wp2_with (go_at_call 56; (with_reducible refine HW.out.mono ?_); rintro e w6 ⟨rfl, rfl⟩)
          go_ret
          exact ⟨retI (by rw [Hf.out, Hd.out]), hb3⟩
      · obtain rfl : n = k := by omega
        rw [HE.out] at hd
        have Hd := hid_ hd
        clear hd
        go_wp2
        go_ret
        exact ⟨retI (by rw [Hf.out, Hd.out]), hb3⟩
  · have Hf : Hid (errSW L ws = validS L) := hid_ (by rw [errSW, if_neg hs])
    have hq : (validS L != 0) = true := by simpa using hs
    generalize validS L = x at *
    clear hs
    go_enter Tryz.func36, Tryz.ntmps36
    go_wp2_with (go_at_call 47; (with_reducible refine HV.out.mono ?_); rintro e w3 ⟨rfl, hb3⟩)
    go_ret
    exact ⟨retI Hf.out, hb3⟩

/-! ### the key of a word -/
theorem Tryz.infoByte : (Tryz.prog.info? 5).map (fun i => (i.zero, i.size, i.bytes)) = some (some (.int .u8 0), 1, 1) := by kernel_rfl
def byteV (l : List Int) (k n : Nat) : List Value := (l.take k).map (Value.int .u8) ++ List.replicate (n - k) (Value.int .u8 0)
/-- block g holds the first k numbers of l as bytes, and then noughts -/
def BytesAt (w : World) (g : Nat) (l : List Int) (k : Nat) : Prop := w.heap[g]? = some (.cells (byteV l k l.length).toArray 5 (0, 0))
theorem byteV_set {l : List Int} {k : Nat} (hk : k < l.length) : (byteV l k l.length).set k (.int .u8 (l.getD k 0)) = byteV l (k + 1) l.length := by
  have hlen : ((l.take k).map (Value.int .u8)).length = k := by simp; omega
  rw [byteV, byteV, List.set_append_right _ _ (by omega), hlen, Nat.sub_self, take_snoc l 0 k hk, List.map_append]
  obtain ⟨m, hm⟩ : ∃ m, l.length - k = m + 1 := ⟨l.length - k - 1, by omega⟩
  rw [hm, show l.length - (k + 1) = m by omega, List.replicate_succ, List.set_cons_zero]
  simp
theorem BytesAt.set {w : World} {g : Nat} {l : List Int} {k : Nat} (h : BytesAt w g l k) (hk : k < l.length) : BytesAt (w.setCell ⟨g, k, none⟩ (.int .u8 (l.getD k 0))) g l (k + 1) := by
  have := Go.Joins.block_setCell h (i := k) (.int .u8 (l.getD k 0))
  rw [BytesAt, this, ← byteV_set hk]
  simp
theorem BytesAt.cell {w : World} {g : Nat} {l : List Int} (h : BytesAt w g l l.length) {i : Nat} (hi : i < l.length) : w.cell? ⟨g, 0 + i, none⟩ = some (.int .u8 (l.getD i 0)) := by
  rw [Nat.zero_add, Go.Joins.cell_of_block h]
  simp [byteV, List.getD, hi]
set_option maxRecDepth 100000 in
set_option maxHeartbeats 4000000 in
theorem key_calls (a : Option Addr) (n c : Nat) (l : List Int) (w : World) (h : IntsAt w a n c l) (hn : n ≤ 1000) (hw : isWord l = true) :
    Calls Tryz.prog 40 #[.slice a n c] w fun e w' => e = .returned (.string (strOfNums l)) ∧ Below w.heap.size w w' := by
  obtain ⟨i0, hi0, hz0, hz1, hz2⟩ := info_parts Tryz.infoByte
  have Hz2 : Hid (i0.bytes * n ≤ 281474976710656) := hid_ (by rw [hz2]; omega)
  have HLn := hid_ h.len
  have HX : Hid (∀ k, k < n → 0 ≤ l.getD k 0 ∧ l.getD k 0 ≤ 5) := hid_ (fun k hk => by
    rw [isWord, List.all_eq_true] at hw
    have := hw _ (getD_mem (show k < l.length by rw [h.len]; exact hk))
    simp only [Within, Bool.and_eq_true, decide_eq_true_eq] at this; exact this)
  clear hw
  go_enter Tryz.func40, Tryz.ntmps40
  go_wp2_with (at_make; refine wpList_make_full _ rfl (.tmp 7) (.tmp 7) _ rfl w.heap.size 5 i0 (.int .u8 0) 1 Tryz.underlying93 hi0 hz0 hz1 .i64 .i64 _ _ n rfl rfl rfl rfl Hz2.out (by unfold maxLen; omega) (Nat.le_refl _) ?_; intro w4 hown4 hg4)
  have hb4 : Below w.heap.size w w4 := (Below.refl _ w).grown hg4 (Nat.le_refl _) (fun k hk => by cases hk)
  have hB4 : BytesAt w4 w.heap.size l 0 := by
    rcases hown4.2 with ⟨h1, _⟩ | ⟨g, cap, cur, h1, h2, h3, h4, h5, h6, h7⟩
    · injection h1 with h1; cases h1
    · injection h1 with h1 _ h8
      injection h1 with h1
      injection h1 with h1
      subst h1; subst h8
      rw [BytesAt, h3]
      have e1 : cur.toList = byteV l 0 l.length := by
        rw [← List.take_of_length_le (l := cur.toList) (i := n * 1) (by rw [Array.length_toList]; omega)]
        refine h7.trans ?_
        rw [byteV, HLn.out]
        simp [madeCells, Value.cells, Nat.mod_one]
        exact List.ext_getElem (by simp) fun i h1 h2 => by simp
      rw [← e1]
  have H4 := hid_ hB4
  have Hb4 := hid_ hb4
  have Hh := hid_ h
  clear h hB4 hb4 hown4 hg4
  go_loopw [11] (fun i wr => ∃ k : Nat, k ≤ n ∧ i = .int .i64 k ∧ BytesAt wr w.heap.size l k ∧ Below w.heap.size w wr) (fun i _ => n - (intOf i).toNat)
  case atStart => exact ⟨0, Nat.zero_le _, rfl, H4.out, Hb4.out⟩
  case round =>
    obtain ⟨k, hk, rfl, hB, hb⟩ := hrel
    by_cases hlt : k < n
    · obtain ⟨b, off, rfl, hbl, hc⟩ := (Hh.out.below hb (Nat.le_refl _)).cells k hlt
      obtain ⟨x0, x5⟩ := HX.out k hlt
      have hset := hB.set (by rw [HLn.out]; exact hlt)
      have hfr := Go.Joins.unfrozen_of_block hB k
      have hcl : ∃ u, wr.cell? ⟨w.heap.size, k, none⟩ = some u := by
        rw [Go.Joins.cell_of_block hB]
        have : k < (byteV l k l.length).length := by simp [byteV, HLn.out]; omega
        exact ⟨_, by rw [List.getElem?_toArray, List.getElem?_eq_getElem this]⟩
      obtain ⟨u, hu⟩ := hcl
      have HB := hid_ hB; have Hb := hid_ hb
      clear hB hb
      generalize l.getD k 0 = x at *
      have hwr : IntKind.u8.wrap x = x := IntWalk.u8_in _ (by omega)
      have Hset := hid_ hset
      clear hset
      go_wp2
      go_roundw
      case rel => exact ⟨k + 1, by omega, by go_num, Hset.out, Hb.out.setCell (Nat.le_refl _) _⟩
      case measure => simp [intOf]; omega
    · obtain rfl : n = k := by omega
      have hcv := run_convert_bytes_arg (P := Tryz.prog) wr 93 5 Tryz.underlying93 Tryz.underlying5 w.heap.size 0 n n l HLn.out (fun i hi => BytesAt.cell (by rw [HLn.out]; exact hB) (by rw [HLn.out]; exact hi)) 9 Tryz.underlying9
      have HB := hid_ hB
      clear hB
      go_wp2
      go_ret
      exact ⟨rfl, hb⟩
end Go.Proofs.YtebbmhlkdfmmcaaGreat
