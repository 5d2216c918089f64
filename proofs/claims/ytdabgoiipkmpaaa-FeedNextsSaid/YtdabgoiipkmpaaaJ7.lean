import Derived.Test.YtdabgoiipkmpaaaJ6
import Derived.Test.YtdabgoiipkmpaaaJk
import Derived.Test.YtdabgoiipkmpaaaPv
namespace Go.Proofs.Ytdabgoiipkmpaaa
open Go.RowKit Go.Proofs.Kv

/-! ### neighbors that are the same, each once -/
def cpL (M : List (List Int)) : Nat → List (List Int)
  | 0 => []
  | m + 1 => if 0 < m ∧ M.getD m [] = M.getD (m - 1) [] then cpL M m else cpL M m ++ [M.getD m []]
abbrev z0 : Value × List Int := (.slice none 0 0, [])
def cpP (Z : List (Value × List Int)) : Nat → List (Value × List Int)
  | 0 => []
  | m + 1 => if 0 < m ∧ (Z.getD m z0).2 = (Z.getD (m - 1) z0).2 then cpP Z m else cpP Z m ++ [Z.getD m z0]
theorem cpP_snd (Z : List (Value × List Int)) : ∀ m, (cpP Z m).map (·.2) = cpL (Z.map (·.2)) m
  | 0 => rfl
  | m + 1 => by
    have e : ∀ i, (Z.map (·.2)).getD i [] = (Z.getD i z0).2 := fun i => by
      simp only [List.getD, List.getElem?_map]; cases Z[i]? <;> rfl
    have ih := cpP_snd Z m
    unfold cpP cpL
    rw [e, e]
    split
    · exact ih
    · rw [List.map_append, ih]; rfl
theorem cpP_le (Z : List (Value × List Int)) : ∀ m, (cpP Z m).length ≤ m
  | 0 => by simp [cpP]
  | m + 1 => by
    have ih := cpP_le Z m
    unfold cpP
    split
    · omega
    · simp; omega
theorem cpP_mem (Z : List (Value × List Int)) : ∀ m, m ≤ Z.length → ∀ z ∈ cpP Z m, z ∈ Z
  | 0, _, z, h => by simp [cpP] at h
  | m + 1, hm, z, h => by
    unfold cpP at h
    split at h
    · exact cpP_mem Z m (by omega) z h
    · rcases List.mem_append.1 h with h | h
      · exact cpP_mem Z m (by omega) z h
      · rw [List.mem_singleton] at h; subst h
        rw [show Z.getD m z0 = Z[m] by simp [List.getD, List.getElem?_eq_getElem (show m < Z.length by omega)]]; exact List.getElem_mem _
theorem cpP_full {Z : List (Value × List Int)} : ∀ {m}, m ≤ Z.length → (∀ j, 0 < j → j < m → (Z.getD j z0).2 ≠ (Z.getD (j - 1) z0).2) → cpP Z m = Z.take m
  | 0, _, _ => by simp [cpP]
  | m + 1, hm, h => by
    unfold cpP
    rw [if_neg (fun hh => h m hh.1 (by omega) hh.2), cpP_full (by omega) (fun j h1 h2 => h j h1 (by omega)), take_snoc Z z0 m (by omega)]
theorem cp_asc {M : List (List Int)} (hs : M.Pairwise fun x y => leL x y = true) : ∀ m, m ≤ M.length → (cpL M m).Pairwise LtL ∧ ∀ z, z ∈ cpL M m ↔ z ∈ M.take m
  | 0, _ => by simp [cpL]
  | m + 1, hm => by
    obtain ⟨h1, h2⟩ := cp_asc hs m (by omega)
    have hmm : m < M.length := by omega
    have em : M.getD m [] = M[m] := by simp [List.getD, List.getElem?_eq_getElem hmm]
    have hat : ∀ i (hi : i < m), leL M[i] M[m] = true := fun i hi => List.pairwise_iff_getElem.1 hs i m (by omega) hmm hi
    rw [take_snoc M [] m hmm]
    unfold cpL
    by_cases hc : 0 < m ∧ M.getD m [] = M.getD (m - 1) []
    · rw [if_pos hc]
      refine ⟨h1, fun z => ?_⟩
      rw [h2, List.mem_append, List.mem_singleton]
      refine ⟨.inl, fun h => h.elim id fun h => ?_⟩
      rw [h, hc.2, show M.getD (m - 1) [] = M[m - 1] by simp [List.getD, List.getElem?_eq_getElem (show m - 1 < M.length by omega)]]
      exact List.mem_take_iff_getElem.2 ⟨m - 1, by omega, rfl⟩
    · rw [if_neg hc]
      refine ⟨List.pairwise_append.2 ⟨h1, List.pairwise_singleton _ _, fun x hx y hy => ?_⟩, fun z => by rw [List.mem_append, List.mem_append, h2]⟩
      rw [List.mem_singleton] at hy; subst hy
      obtain ⟨i, hi, rfl⟩ := List.mem_take_iff_getElem.1 ((h2 x).1 hx)
      have hi' : i < m := by omega
      have hle := hat i hi'
      rw [em]
      unfold LtL
      cases hlt : ltL M[i] M[m] with
      | true => rfl
      | false =>
        exfalso
        rw [leL, Bool.not_eq_true'] at hle
        have e := ltL_anti _ _ hlt hle
        refine hc ⟨by omega, ?_⟩
        rw [em, show M.getD (m - 1) [] = M[m - 1] by simp [List.getD, List.getElem?_eq_getElem (show m - 1 < M.length by omega)]]
        have k1 := hat (m - 1) (by omega)
        rw [leL, Bool.not_eq_true'] at k1
        by_cases hi2 : i = m - 1
        · subst hi2; exact e.symm
        · have k2 : leL M[i] M[m - 1] = true := List.pairwise_iff_getElem.1 hs i (m - 1) (by omega) (by omega) (by omega)
          rw [leL, Bool.not_eq_true', e] at k2
          exact (ltL_anti _ _ k2 k1).symm
theorem foldI_eq (M : List (List Int)) : foldI M = cpL (M.mergeSort leL) M.length := by
  have hs : (M.mergeSort leL).Pairwise fun x y => leL x y = true := List.pairwise_mergeSort leL_tr leL_total M
  have hl : (M.mergeSort leL).length = M.length := by simp
  obtain ⟨h1, h2⟩ := cp_asc hs M.length (by omega)
  obtain ⟨k1, k2⟩ := fold_ins M (acc := []) List.Pairwise.nil
  refine asc_unique LtL_irr LtL_tr k1 h1 fun x => ?_
  show x ∈ List.foldl insertL [] M ↔ _
  rw [k2, h2, List.take_of_length_le (by omega)]
  simp

/-! ### slices.CompactFunc of lists -/
theorem Try.zeroInts (w : World) : (zeroValue 23).run Try.prog w = .ok (.slice none 0 0) w := by kernel_rfl
/-- what stands in the row while it is compacted: the first k cells hold those that were kept, and from m - 1 on all is as it was -/
structure CpAt (w w' : World) (B g n cap : Nat) (Z : List (Value × List Int)) (k m : Nat) (xs : List Value) : Prop where
  own : w'.ownsRow B 23 1 (.slice (some ⟨g, 0, none⟩) n cap) n xs
  old : ∀ j, m ≤ j + 1 → j < n → xs[j]? = some (Z.getD j z0).1
  new : xs.take k = (cpP Z m).map (·.1)
  grown : w.grownBy w' (some g)
theorem ints_grown' {w w' : World} {g : Nat} {a : Option Addr} {n c : Nat} {l : List Int} (h : IntsAt w a n c l) (hg : w.grownBy w' (some g)) (hd : ∀ b off, 0 < n → a = some ⟨b, off, none⟩ → b ≠ g) : IntsAt w' a n c l :=
  h.kept (F := fun b => some g = some b) ((Kept.refl _ _).grown hg fun _ _ e => e) fun b off hn ha e => hd b off hn ha (by injection e with e; exact e.symm)
set_option maxRecDepth 100000 in
set_option maxHeartbeats 8000000 in
theorem compactFunc_calls {B : Nat} {v : Value} {L : List (List Int)} {w : World} (hown : OwnL 23 w B v L) (hs : L.length ≤ 1000000) (hB : B ≤ w.heap.size) :
    Calls Try.prog 62 #[v, .func (.func 63) #[] #[]] w fun e w' => ∃ v', e = .returned v' ∧ OwnL 23 w' B v' (cpL L L.length) ∧ Below B w w' := by
  have Hown := hid_ hown
  obtain ⟨a0, c0, rfl, hL⟩ := hown.at_
  by_cases h2 : L.length < 2
  · have HE : Hid (cpL L L.length = L) := hid_ (by
      match L, h2 with
      | [], _ => rfl
      | [x], _ => rfl)
    have h2i : (L.length : Int) < 2 := by omega
    generalize L.length = n at *
    clear hown hL
    go_enter Try.func62, Try.ntmps62
    go_wp2
    go_ret
    exact ⟨_, rfl, by rw [HE.out]; exact Hown.out, Below.refl _ _⟩
  · obtain ⟨vs, hrow, hin⟩ := hown.has
    have hvl : vs.length = L.length := by have := hrow.1; simpa using this
    obtain ⟨g, cap, e⟩ : ∃ g cap, (.slice a0 L.length c0 : Value) = .slice (some ⟨g, 0, none⟩) L.length cap := by
      rcases hrow.2 with ⟨_, h0⟩ | ⟨g, cap, cur, e, _⟩
      · omega
      · exact ⟨g, cap, e⟩
    injection e with e1 _ e3
    subst e1; subst e3
    obtain ⟨n, hn⟩ : ∃ n, L.length = n := ⟨_, rfl⟩
    have hlt := hrow.lt g rfl
    have hnc : L.length ≤ c0 := hL.le
    have hcs : c0 ≤ 9223372036854775807 := hL.small
    -- the values with their words
    obtain ⟨Z, hZ⟩ : ∃ Z, Z = vs.zip L := ⟨_, rfl⟩
    have hZl : Z.length = n := by rw [hZ, List.length_zip]; omega
    have hZ1 : Z.map (·.1) = vs := by rw [hZ, List.map_fst_zip]; omega
    have hZ2 : Z.map (·.2) = L := by rw [hZ, List.map_snd_zip]; omega
    have hat : ∀ j, j < n → vs[j]? = some (Z.getD j z0).1 ∧ L.getD j [] = (Z.getD j z0).2 := fun j hj => by
      have hz : Z[j]? = some (Z.getD j z0) := by simp [List.getD, List.getElem?_eq_getElem (show j < Z.length by omega)]
      refine ⟨by rw [← hZ1, List.getElem?_map, hz]; rfl, by rw [← hZ2]; simp only [List.getD, List.getElem?_map]; rw [List.getElem?_eq_getElem (show j < Z.length by omega)]; rfl⟩
    have hok : ∀ j, j < n → ∃ a m c, (Z.getD j z0).1 = .slice a m c ∧ IntsAt w a m c (Z.getD j z0).2 ∧ ∀ b off, 0 < m → a = some ⟨b, off, none⟩ → b ≠ g := fun j hj => by
      obtain ⟨a, m, c, e, hi, hd⟩ := hin j (by omega)
      obtain ⟨k1, k2⟩ := hat j hj
      rw [k1] at e
      injection e with e
      rw [k2] at hi
      exact ⟨a, m, c, e, hi, fun b off h1 h2 h3 => hd b off h1 h2 (by rw [h3]; rfl)⟩
    have hfin : ∀ W xs k, k ≤ n → W.ownsRow B 23 1 (.slice (some ⟨g, 0, none⟩) k c0) k xs → w.grownBy W (some g) → xs = (cpP Z n).map (·.1) → (cpP Z n).length = k → OwnL 23 W B (.slice (some ⟨g, 0, none⟩) k c0) (cpL L L.length) := fun W xs k hk ho hg hx hk2 => by
      have e1 : cpL L L.length = (cpP Z n).map (·.2) := by rw [cpP_snd, hZ2, hn]
      rw [e1]
      refine ⟨xs, by rw [List.length_map, hk2]; exact ho, fun i hi => ?_⟩
      rw [List.length_map] at hi
      have hz : (cpP Z n)[i]? = some (cpP Z n)[i] := List.getElem?_eq_getElem hi
      have hm := cpP_mem Z n (by omega) _ (List.getElem_mem hi)
      obtain ⟨j, hj, ej⟩ := List.mem_iff_getElem.1 hm
      obtain ⟨a, m, c, e, hi2, hd⟩ := hok j (by omega)
      have ez : Z.getD j z0 = (cpP Z n)[i] := by rw [← ej]; simp [List.getD, List.getElem?_eq_getElem hj]
      rw [ez] at e hi2
      refine ⟨a, m, c, by rw [hx, List.getElem?_map, hz]; simp [e], ?_, fun b off h1 h2 h3 => ?_⟩
      · rw [show ((cpP Z n).map (·.2)).getD i [] = (cpP Z n)[i].2 by simp only [List.getD, List.getElem?_map, hz]; rfl]
        exact ints_grown' hi2 hg hd
      · simp [Value.ownBlock] at h3
        exact hd b off h1 h2 h3.symm
    have eg : ∀ args w, (callFunc 63 args).run Try.prog w = .ok (.enter 63 args) w := enters_of Try.func63 (by kernel_rfl) rfl
    have Hok := hid_ hok
    have Hfin := hid_ hfin
    have Hrow := hid_ hrow
    have Hvs := hid_ (fun j hj => (hat j hj).1)
    have Hvl : Hid (vs.length = n) := hid_ (by omega)
    have HZ1 := hid_ hZ1
    have HZl := hid_ hZl
    have Hcell : Hid (∀ (W : World) (xs : List Value), W.ownsRow B 23 1 (.slice (some ⟨g, 0, none⟩) n c0) n xs → ∀ (j : Nat) (u : Value), xs[j]? = some u → W.cell? ⟨g, j, none⟩ = some u) := hid_ (fun W xs ho j u hu => by
      have := ho.cells (g := g) rfl j u hu
      rwa [add_at, Nat.zero_add] at this)
    have Hfull := hid_ (fun m (hm : m ≤ n) h => @cpP_full Z m (by omega) h)
    have Hle := hid_ (cpP_le Z)
    rw [hn] at hnc hs h2
    have hn2 : ¬ (n : Int) < 2 := by omega
    rw [hn] at Hrow Hfin ⊢
    clear hown hL hrow hin hvl hZ hZl hZ1 hZ2 hat hok hfin hn Hown
    generalize cpL L n = R at *
    have hEq : ∀ (W : World), w.grownBy W (some g) → ∀ i j, i < n → j < n → ∀ a1 m1 c1 a2 m2 c2, (Z.getD i z0).1 = .slice a1 m1 c1 → (Z.getD j z0).1 = .slice a2 m2 c2 → ∀ q', Calls Try.prog 63 #[.slice a1 m1 c1, .slice a2 m2 c2] (W.drewN q') fun e w'' => e = .returned (.bool (decide ((Z.getD i z0).2 = (Z.getD j z0).2))) ∧ ∃ q, w'' = (W.drewN q').drewN q := fun W hG i j hi hj a1 m1 c1 a2 m2 c2 e1 e2 q' => by
      obtain ⟨b1, n1, d1, f1, i1, k1⟩ := Hok.out i hi
      obtain ⟨b2, n2, d2, f2, i2, k2⟩ := Hok.out j hj
      rw [e1] at f1; rw [e2] at f2
      injection f1 with x1 x2 x3; injection f2 with y1 y2 y3
      subst x1; subst x2; subst x3; subst y1; subst y2; subst y3
      exact equalP_calls _ _ _ _ _ _ _ _ _ ((ints_grown' i1 hG k1).drewN q') ((ints_grown' i2 hG k2).drewN q')
    have HEq := hid_ hEq
    have Hsl := hid_ (fun i (hi : i < n) => (show ∃ a m c, (Z.getD i z0).1 = .slice a m c from (Hok.out i hi).imp fun a h => h.imp fun m h => h.imp fun c h => h.1))
    have HB := hid_ hlt
    clear hEq hlt
    clear Hok
    go_enter Try.func62, Try.ntmps62
    go_wp2
    go_loopw [5] (fun i wr => ∃ (k q : Nat), 0 < k ∧ k ≤ n ∧ i = .int .i64 (k : Int) ∧ wr = w.drewN q ∧ ∀ j, 0 < j → j < k → (Z.getD j z0).2 ≠ (Z.getD (j - 1) z0).2) (fun i _ => n - (intOf i).toNat)
    case atStart => exact ⟨1, 0, by omega, by omega, rfl, rfl, fun j h1 h2 => absurd h2 (by omega)⟩
    case round =>
      obtain ⟨k, q, h0, hk, rfl, hq, hall⟩ := hrel
      have Hq := hid_ hq
      have Hall := hid_ hall
      have hO : wr.ownsRow B 23 1 (.slice (some ⟨g, 0, none⟩) n c0) n vs := by rw [hq]; exact Hrow.out
      have hG : w.grownBy wr (some g) := by rw [hq]; exact grown_drewN (grown_refl _ _) q
      have HO := hid_ hO
      have HG := hid_ hG
      clear hq hall
      by_cases hlt : k < n
      · obtain ⟨a1, m1, c1, e1⟩ := Hsl.out k hlt
        obtain ⟨a2, m2, c2, e2⟩ := Hsl.out (k - 1) (by omega)
        have p1 := Hcell.out wr vs hO k _ (Hvs.out _ hlt)
        have p2 := Hcell.out wr vs hO (k - 1) _ (Hvs.out _ (by omega))
        rw [e1] at p1; rw [e2] at p2
        have HQ := hid_ (HEq.out wr hG k (k - 1) hlt (by omega) _ _ _ _ _ _ e1 e2)
        have hk1 : (0 : Int) ≤ (k : Int) - 1 := by omega
        have hk2 : (k : Int) - 1 < (n : Int) := by omega
        have hk3 : ((k : Int) - 1).toNat = k - 1 := by omega
        have hw1 : IntKind.i64.wrap ((k : Int) - 1) = (k : Int) - 1 := IntWalk.i64_in _ (by omega)
        clear hO hG e1 e2
        by_cases heq : (Z.getD k z0).2 = (Z.getD (k - 1) z0).2
        · rw [decide_eq_true heq] at HQ
          have Hnew : Hid (vs.take k = (cpP Z (k + 1)).map (·.1)) := hid_ (by
            rw [cpP, if_pos ⟨h0, heq⟩, Hfull.out k hk Hall.out, List.map_take, HZ1.out])
          clear heq
          go_wp2_with fail
          go_quiet ((go_at_call 63; exact quiet_more (HQ.out _)))
          clear hk3 hw1 p1 p2
          go_wp2
          obtain ⟨N, hN⟩ : ∃ N, n - k = N := ⟨_, rfl⟩
          rw [hN]
          have HN : Hid (n = k + N) := hid_ (by omega)
          obtain ⟨wo, rfl⟩ : ∃ wo, wo = wr := ⟨_, rfl⟩
          clear hN HQ hk1 hk2
          go_loopw [5, 7] (fun i m wr2 => ∃ (j p : Nat) (xs : List Value), i = .int .i64 (j : Int) ∧ m = .int .i64 (p : Int) ∧ 0 < p ∧ p ≤ N ∧ j < k + p ∧ CpAt w wr2 B g n c0 Z j (k + p) xs) (fun _ m _ => N - (intOf m).toNat)
          case atStart => exact ⟨k, 1, vs, rfl, rfl, by omega, by have := HN.out; omega, by omega, ⟨HO.out, fun j _ hj => Hvs.out j hj, Hnew.out, grown_drewN HG.out _⟩⟩
          case round =>
            obtain ⟨j, p, xs, rfl, rfl, hp, hpN, hjp, hC⟩ := hrel
            have HC := hid_ hC
            have hxl : xs.length = n := by have := hC.own.1; omega
            have hjn : j < n := by have := HN.out; omega
            by_cases hl2 : p < N
            · have hkp : k + p < n := by have := HN.out; omega
              obtain ⟨a3, m3, c3, e3⟩ := Hsl.out (k + p) hkp
              obtain ⟨a4, m4, c4, e4⟩ := Hsl.out (k + p - 1) (by omega)
              have p3 := Hcell.out wr xs hC.own (k + p) _ (hC.old _ (by omega) hkp)
              have p4 := Hcell.out wr xs hC.own (k + p - 1) _ (hC.old _ (by omega) (by omega))
              rw [e3] at p3; rw [e4] at p4
              rw [show k + p - 1 = k + (p - 1) by omega] at p4
              have HQ := hid_ (HEq.out wr hC.grown (k + p) (k + p - 1) hkp (by omega) _ _ _ _ _ _ e3 e4)
              have hk1 : (0 : Int) ≤ (p : Int) - 1 := by omega
              have hk2 : (p : Int) - 1 < (N : Int) := by omega
              have hk3 : ((p : Int) - 1).toNat = p - 1 := by omega
              have hw1 : IntKind.i64.wrap ((p : Int) - 1) = (p : Int) - 1 := IntWalk.i64_in _ (by omega)
              by_cases heq : (Z.getD (k + p) z0).2 = (Z.getD (k + p - 1) z0).2
              · rw [decide_eq_true heq] at HQ
                have Hkeep : Hid (∀ q', CpAt w (wr.drewN q') B g n c0 Z j (k + (p + 1)) xs) := hid_ (fun q' => ⟨hC.own, fun i h1 h2 => hC.old i (by omega) h2, by
                  rw [← Nat.add_assoc, cpP, if_pos ⟨by omega, heq⟩]; exact hC.new, grown_drewN hC.grown _⟩)
                clear heq hC e3 e4
                go_wp2_with fail
                go_quiet ((go_at_call 63; exact quiet_more (HQ.out _)))
                clear hk3 hw1
                go_wp2
                go_roundw
                case rel => exact ⟨j, p + 1, xs, rfl, by go_num, by omega, by omega, by omega, Hkeep.out _⟩
                case measure => simp [intOf]; omega
              · rw [decide_eq_false heq] at HQ
                have Hkeep : Hid (∀ q', CpAt w ((wr.drewN q').setCell ⟨g, j, none⟩ (.slice a3 m3 c3)) B g n c0 Z (j + 1) (k + (p + 1)) (xs.set j (.slice a3 m3 c3))) := hid_ (fun q' => by
                  have ho : (wr.drewN q').ownsRow B 23 1 (.slice (some ⟨g, 0, none⟩) n c0) n xs := hC.own
                  obtain ⟨h1, h2⟩ := ho.stored j (.slice a3 m3 c3)
                  refine ⟨h1, fun i h1 h2 => ?_, ?_, (grown_drewN hC.grown q').trans h2⟩
                  · rw [List.getElem?_set_ne (by omega)]; exact hC.old i (by omega) h2
                  · rw [← Nat.add_assoc, cpP, if_neg (fun h => heq h.2), List.map_append, ← hC.new, Kv.take_snoc _ (.slice none 0 0) j (by simp; omega), List.take_set, List.set_eq_of_length_le (by rw [List.length_take]; omega)]
                    simp [List.getD, show j < xs.length by omega]
                    exact e3.symm)
                have pj := Hcell.out wr xs hC.own j _ (List.getElem?_eq_getElem (show j < xs.length by omega))
                have hf := hC.own.frozenAt j
                clear heq hC e3 e4
                go_wp2_with fail
                go_quiet ((go_at_call 63; exact quiet_more (HQ.out _)))
                clear hk3 hw1
                go_wp2
                go_roundw
                case rel => exact ⟨j + 1, p + 1, _, by go_num, by go_num, by omega, by omega, by omega, Hkeep.out _⟩
                case measure => simp [intOf]; omega
            · obtain rfl : N = p := by omega
              have hclear : ∀ ty, (Builtin.clear_ #[36] ty #[.slice (some ⟨g, j, none⟩) (n - j) (c0 - j)]).run Try.prog wr = .ok (.tuple #[]) (wr.setCells g j (List.replicate (n - j) (.slice none 0 0))) := fun ty =>
                Lib.run_clear_slice wr _ _ ty _ Try.underlying36 Try.zeroInts rfl rfl g j (n - j) (c0 - j) (by omega)
                  (fun t ht => by rw [hC.own.cellAt (j + t) (by omega), List.getElem?_eq_getElem (by omega)]; rfl)
                  (fun t _ => hC.own.frozenAt (j + t))
              have hcapj : ¬ c0 = j := by omega
              have hjn' : j ≤ n := by omega
              have hjc : j ≤ c0 := by omega
              have hji : (j : Int) ≤ (n : Int) := by omega
              have hjci : (j : Int) ≤ (c0 : Int) := by omega
              clear hC
              go_wp2
              go_ret
              have hC := HC.out
              obtain ⟨h1, h2⟩ := own_setCells_at (List.replicate (n - j) (.slice none 0 0)) j hC.own (by rw [List.length_replicate]; omega)
              have h3 := own_cut h1 hjn'
              have h4 := hC.new
              rw [show k + N = n from HN.out.symm] at h4
              rw [Nat.mul_one, List.append_assoc, List.take_left' (by rw [List.length_take]; omega), h4] at h3
              have hl := congrArg List.length h4
              rw [List.length_take, List.length_map] at hl
              have hg2 := hC.grown.trans h2
              exact ⟨_, rfl, Hfin.out _ _ j hjn' h3 hg2 rfl (by omega), (Below.refl _ _).grown hg2 hB (fun r e => by cases e; exact HB.out.1)⟩
        · rw [decide_eq_false heq] at HQ
          have Hn : Hid (∀ j, 0 < j → j < k + 1 → (Z.getD j z0).2 ≠ (Z.getD (j - 1) z0).2) := hid_ (fun j h1 h2 => by
            by_cases e : j = k
            · subst e; exact heq
            · exact Hall.out j h1 (by omega))
          clear heq
          go_wp2_with fail
          go_quiet ((go_at_call 63; exact quiet_more (HQ.out _)))
          clear hk3 hw1
          go_wp2
          go_roundw
          case rel => exact ⟨k + 1, _, by omega, by omega, by go_num, by rw [Hq.out, drewN2], Hn.out⟩
          case measure => simp [intOf]; omega
      · obtain rfl : n = k := by omega
        go_wp2
        go_ret
        have e := Hfull.out n (Nat.le_refl _) Hall.out
        rw [List.take_of_length_le (by rw [HZl.out]; exact Nat.le_refl _)] at e
        exact ⟨_, rfl, Hfin.out wr vs n (Nat.le_refl _) HO.out HG.out (by rw [e, HZ1.out]) (by rw [e, HZl.out]), by rw [Hq.out]; exact below_drewN (Below.refl _ _) _⟩
end Go.Proofs.Ytdabgoiipkmpaaa
