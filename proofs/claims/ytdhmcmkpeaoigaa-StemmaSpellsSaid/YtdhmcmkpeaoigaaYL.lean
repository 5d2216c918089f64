import Derived.Test.YtdhmcmkpeaoigaaYK
namespace Go.Proofs.Ytdhmcmkpeaoigaa
open Go.RowKit Go.Proofs.Kv Go

/-! ### Lose of the document -/
theorem erase_take_miss {α : Type} (T : List α) (d : α) {i k : Nat} (hk : k < T.length) (h : k ≠ i) : (T.take (k + 1)).eraseIdx i = (T.take k).eraseIdx i ++ [T.getD k d] := by
  rw [Kv.take_snoc T d k hk]
  have hl : (T.take k).length = k := by rw [List.length_take]; omega
  rcases Nat.lt_or_ge i k with q | q
  · rw [List.eraseIdx_append_of_lt_length (by omega)]
  · rw [List.eraseIdx_of_length_le (by rw [List.length_append, hl, List.length_singleton]; omega), List.eraseIdx_of_length_le (by omega)]
theorem erase_take_hit {α : Type} (T : List α) (d : α) {k : Nat} (hk : k < T.length) : (T.take (k + 1)).eraseIdx k = (T.take k).eraseIdx k := by
  rw [Kv.take_snoc T d k hk]
  have hl : (T.take k).length = k := by rw [List.length_take]; omega
  rw [List.eraseIdx_append_of_length_le (by omega), hl, Nat.sub_self, List.eraseIdx_of_length_le (l := T.take k) (by omega)]
  simp
set_option maxRecDepth 100000 in
set_option maxHeartbeats 4000000 in
theorem r7Lose_calls (a : Option Addr) (n c : Nat) (T : List (List Int)) (i : Int) (w : World) (h : ListsAt w a n c T) :
    Calls Try.prog 58 #[.slice a n c, .int .i64 i] w fun e w' => ∃ v us, e = .returned (.tuple #[v, .int .i64 (loseE T i)]) ∧ OwnRw 28 3 w' w.heap.size v us (resLose T i) ∧ Below w.heap.size w w' := by
  have HV := hid_ (copied_calls a n c T i w h)
  have HR : Hid (resLose T i = if loseE T i = 0 then T.eraseIdx i.toNat else []) := hid_ rfl
  have HE : Hid (loseE T i = if copiesE T [i] = 0 then (if T.length = 1 then 1 else 0) else copiesE T [i]) := hid_ rfl
  have hlen := h.len
  generalize resLose T i = R at *
  generalize loseE T i = E at *
  by_cases he : copiesE T [i] = 0
  · obtain ⟨g, hp0, hp1⟩ := copiesE_one he
    have hE := HE.out.trans (if_pos he)
    rw [he] at HV
    clear he HE
    have hg := g.le
    rw [hlen] at hE hp1 hg
    obtain ⟨j, rfl⟩ := nat_of hp0
    by_cases h1 : n = 1
    · have HE' : Hid (E = 1) := hid_ (hE.trans (if_pos h1))
      have HR' : Hid (R = []) := hid_ (HR.out.trans (if_neg (by rw [HE'.out]; decide)))
      subst h1
      clear hE HR h hlen g
      rw [HE'.out, HR'.out]
      go_enter Try.func58, Try.ntmps58
      go_wp2_with (go_at_call 86; (with_reducible refine HV.out.mono ?_); rintro e w2 ⟨rfl, q, rfl⟩)
      go_ret2
      exact ⟨_, [], rfl, OwnRw.nil _ _ (by decide), below_drewN (Below.refl _ _) _⟩
    · have HE' : Hid (E = 0) := hid_ (hE.trans (if_neg h1))
      have HR' : Hid (R = T.eraseIdx j) := hid_ ((HR.out.trans (if_pos HE'.out)).trans (by rw [Int.toNat_natCast]))
      have hq : ((n : Int) == 1) = false := by simp; omega
      have HL := hid_ (fun W (hW : Below w.heap.size w W) => h.below hW (Nat.le_refl _))
      have Hlen := hid_ hlen
      have Hrow := hid_ (fun k (hk : k < n) => show (T.getD k []).length ≤ 6 by rw [g.len k (by omega)]; exact g.w6)
      obtain ⟨i0, hi0, hz0, hz1, hz2⟩ := info_parts Try.infoInt
      obtain ⟨i1, hi1, hz0', hz1', hz2'⟩ := info_parts Try.infoInts
      clear hE HR h hlen g h1 hp0 hp1
      rw [HE'.out, HR'.out]
      go_enter Try.func58, Try.ntmps58
      go_wp2_with (go_at_call 86; (with_reducible refine HV.out.mono ?_); rintro e w2 ⟨rfl, q, rfl⟩)
      go_loopw [7, 8] (fun v i wr => ∃ (k : Nat) (us : List Value), k ≤ n ∧ i = .int .i64 k ∧ OwnRw 28 3 wr w.heap.size v us ((T.take k).eraseIdx j) ∧ Below w.heap.size w wr) (fun _ i _ => n - (intOf i).toNat)
      case atStart => exact ⟨0, [], Nat.zero_le _, rfl, by rw [List.take_zero]; exact OwnRw.nil _ _ (by decide), below_drewN (Below.refl _ _) _⟩
      case round =>
        obtain ⟨k, us, hk, rfl, hO, hbel⟩ := hrel
        have hsz := hbel.size
        by_cases hlt : k < n
        · by_cases hkj : k = j
          · have hqq : ((k : Int) != (j : Int)) = false := by simp; omega
            have HO := hid_ hO
            have Hh : Hid ((T.take (k + 1)).eraseIdx j = (T.take k).eraseIdx j) := hid_ (by rw [← hkj]; exact erase_take_hit T [] (by rw [Hlen.out]; exact hlt))
            clear hO hkj
            go_wp2
            go_roundw
            case rel => exact ⟨k + 1, us, by omega, by go_num, by rw [Hh.out]; exact HO.out, hbel⟩
            case measure => simp [intOf]; omega
          · have hqq : ((k : Int) != (j : Int)) = true := by simp; omega
            obtain ⟨b, off, a1, n1, c1, rfl, hb, hcell, hrow⟩ := (HL.out wr hbel).cells k hlt
            have hkl : k < T.length := by rw [Hlen.out]; exact hlt
            have hle : n1 ≤ 6 := by rw [← hrow.len]; exact Hrow.out _ hlt
            have Hpush : Hid ((T.take (k + 1)).eraseIdx j = (T.take k).eraseIdx j ++ [T.getD k []]) := hid_ (erase_take_miss T [] hkl hkj)
            have hown0 : (wr.alloc (.cells #[] 3)).ownsRow wr.heap.size 3 1 (.slice (some ⟨wr.heap.size, 0, none⟩) 0 0) 0 (([] : List Int).map (Value.int .i64)) := World.ownsRow_made wr #[] 0 (Nat.le_refl _) (by omega) rfl
            have hI := hrow.below ((Below.refl _ wr).alloc (Nat.le_refl _) (.cells #[] 3)) (Nat.le_refl _)
            obtain ⟨kl, hkl2⟩ : ∃ kl, ((T.take k).eraseIdx j).length = kl := ⟨_, rfl⟩
            have hkle : kl ≤ k := by rw [← hkl2]; exact Nat.le_trans (List.length_eraseIdx_le _ _) (by rw [List.length_take]; omega)
            have Hjl := hid_ hkl2
            have HO := hid_ hO
            have Hyl := hid_ hrow.len
            generalize T.getD k [] = y at *
            clear hrow hO hkj hkl2
            go_wp2_with (first
              | (at_builtin; refine wpList_append_ints _ rfl (.tmp 28) (.tmp 32) _ rfl wr.heap.size 3 i0 Try.underlying28 hi0 hz0 hz1 hz2 _ _ _ rfl hown0 _ _ _ _ rfl hI (by omega) (by simp) ?_; intro v1 w2 hown2 hg2 hat2; have hb2 : Below wr.heap.size wr w2 := below_new hg2; rw [Nat.zero_add, List.nil_append] at hown2; obtain ⟨g1, cap1, rfl, -⟩ := IntsAt.own hown2; have hO2 := (HO.out.below hb2 (Nat.le_refl _)).top; have hsz2 := hb2.size; rw [Hjl.out] at hO2)
              | (at_builtin; refine wpList_push_val2 _ rfl (.tmp 27) (.tmp 34) _ rfl w.heap.size 28 i1 Try.underlying22 hi1 hz0' rfl hz1' hz2' (by omega) _ _ _ rfl hO2 (.slice g1 n1 cap1) rfl 28 rfl (by omega) (by omega) ?_; intro v3 w3 hown3 hg3 hat3))
            have Hb3 : Hid (Below w.heap.size w w3) := hid_ (below_app (hbel.trans (hb2.mono hsz)) (Nat.le_trans hsz hsz2) hO2 hg3)
            have HO3 := hid_ (OwnRw.push (r := y) hsz HO.out hb2 (by rw [Hyl.out]; exact hown2) (by rw [Hjl.out]; exact hown3) hg3)
            clear hown3 hg3 hat3 hO2 hown2 hg2 hat2
            go_roundw
            case rel => exact ⟨k + 1, _, by omega, by go_num, by rw [Hpush.out]; exact HO3.out, Hb3.out⟩
            case measure => simp [intOf]; omega
        · obtain rfl : k = n := by omega
          rw [show T.take k = T from List.take_of_length_le (by rw [Hlen.out]; exact Nat.le_refl _)] at hO
          have HO := hid_ hO
          clear hO
          go_wp2
          go_ret2
          exact ⟨_, us, rfl, HO.out, hbel⟩
  · have HE' : Hid (E = copiesE T [i]) := hid_ (HE.out.trans (if_neg he))
    have HR' : Hid (R = []) := hid_ (HR.out.trans (if_neg (by rw [HE'.out]; exact he)))
    have hq : (copiesE T [i] != 0) = true := by simpa using he
    rw [HE'.out, HR'.out]
    generalize copiesE T [i] = x at *
    clear he HE HR
    go_enter Try.func58, Try.ntmps58
    go_wp2_with (go_at_call 86; (with_reducible refine HV.out.mono ?_); rintro e w2 ⟨rfl, q, rfl⟩)
    go_ret2
    exact ⟨_, [], rfl, OwnRw.nil _ _ (by decide), below_drewN (Below.refl _ _) _⟩
end Go.Proofs.Ytdhmcmkpeaoigaa
