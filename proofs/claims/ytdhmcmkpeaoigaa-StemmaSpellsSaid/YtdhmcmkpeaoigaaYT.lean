import Derived.Test.YtdhmcmkpeaoigaaYS
namespace Go.Proofs.Ytdhmcmkpeaoigaa
open Go.RowKit Go.Proofs.Kv Go

/-! ### Spell of the program -/
def spellE (T : List (List Int)) (p : Int) (l : List Int) : Int := if placesE T [p] = 0 then (if allRB l = true then 0 else 1) else placesE T [p]
def resSpell (T : List (List Int)) (p : Int) (l : List Int) : List (List Int) := if spellE T p l = 0 then T.map (spF l p.toNat) else []
theorem spellE_ok {T : List (List Int)} {p : Int} {l : List Int} (h : spellE T p l = 0) : GoodT T ∧ 0 ≤ p ∧ p < n0 T ∧ allRB l = true := by
  unfold spellE at h
  split at h
  · rename_i hc
    obtain ⟨g, h1, h2⟩ := placesE_one hc
    split at h
    · rename_i hl; exact ⟨g, h1, h2, hl⟩
    · cases h
  · rename_i hc; exact absurd h hc
theorem allRB_len {l : List Int} (h : allRB l = true) : l.length = 3 := by
  unfold allRB at h
  rw [Bool.and_eq_true, Bool.and_eq_true, Bool.and_eq_true] at h
  exact of_decide_eq_true h.2.2.2
set_option maxRecDepth 100000 in
set_option maxHeartbeats 4000000 in
theorem stSpell_calls (a : Option Addr) (n c : Nat) (T : List (List Int)) (p : Int) (al : Option Addr) (nl cl : Nat) (l : List Int) (w : World) (h : ListsAt w a n c T) (h' : IntsAt w al nl cl l) :
    Calls Try.prog 53 #[.slice a n c, .int .i64 p, .slice al nl cl] w fun e w' => ∃ v us, e = .returned (.tuple #[v, .int .i64 (spellE T p l)]) ∧ OwnRw 28 3 w' w.heap.size v us (resSpell T p l) ∧ Below w.heap.size w w' := by
  have HV := hid_ (fun W (hW : Below w.heap.size w W) a' n' c' (h' : IntsAt W a' n' c' [p]) => places_calls a n c T a' n' c' [p] W (h.below hW (Nat.le_refl _)) h')
  have HAl := hid_ (fun W (hW : Below w.heap.size w W) => allR7_calls al nl cl l W (h'.below hW (Nat.le_refl _)))
  have HR : Hid (resSpell T p l = if spellE T p l = 0 then T.map (spF l p.toNat) else []) := hid_ rfl
  have HE : Hid (spellE T p l = if placesE T [p] = 0 then (if allRB l = true then 0 else 1) else placesE T [p]) := hid_ rfl
  have hlen := h.len
  generalize resSpell T p l = R at *
  generalize spellE T p l = E at *
  have b1 := below_alloc w (.cells #[.int .i64 p] 3)
  by_cases he : placesE T [p] = 0
  · obtain ⟨g, hp0, hp1⟩ := placesE_one he
    have hE := HE.out.trans (if_pos he)
    rw [he] at HV
    clear he HE
    cases hal : allRB l with
    | false =>
      rw [hal] at HAl hE
      have HE' : Hid (E = 1) := hid_ hE
      have HR' : Hid (R = []) := hid_ (HR.out.trans (if_neg (by rw [HE'.out]; decide)))
      clear hE HR h hlen g h' hp0 hp1 hal
      rw [HE'.out, HR'.out]
      have Hb1 := hid_ b1
      clear b1
      go_enter Try.func53, Try.ntmps53
      go_wp2_with (first
        | (go_at_call 59; (with_reducible refine (HV.out _ (below_alloc _ _) _ _ _ (IntsAt.one _ _ _)).mono ?_); rintro e w2 ⟨rfl, rfl⟩)
        | (go_at_call 90; (with_reducible refine (HAl.out _ Hb1.out).mono ?_); rintro e w3 ⟨rfl, q, rfl⟩))
      go_ret2
      exact ⟨_, [], rfl, OwnRw.nil _ _ (by decide), below_drewN Hb1.out _⟩
    | true =>
      rw [hal] at HAl hE
      have HE' : Hid (E = 0) := hid_ hE
      have hl3 : nl = 3 := h'.len.symm.trans (allRB_len hal)
      subst hl3
      obtain ⟨j, rfl⟩ := nat_of hp0
      have HR' : Hid (R = T.map (spF l j)) := hid_ ((HR.out.trans (if_pos HE'.out)).trans (by rw [Int.toNat_natCast]))
      have HC := hid_ (fun W (hW : Below w.heap.size w W) => copied7_calls a n c T W (h.below hW (Nat.le_refl _)) (by have := g.le; omega) (fun k hk => by rw [g.len k (by omega)]; have := g.w6; omega))
      have HLl := hid_ (fun W (hW : Below w.heap.size w W) => h'.below hW (Nat.le_refl _))
      have hjm : j < n0 T := by omega
      have hn : 0 < n := by have := g.ge; omega
      have Hlen := hid_ hlen
      have Hrow := hid_ (fun k (hk : k < n) => g.len k (by omega))
      have Hok := hid_ (fun k (hk : k < n) => g.ok k (by omega) j hjm)
      have HF0 := hid_ (partF_zero (spF l j) T)
      have HFn := hid_ (partF_all (spF l j) T hlen)
      have HFa := hid_ (fun k (hk : k < n) => partF_at (spF l j) T (k := k) (by rw [hlen]; exact hk))
      have HFs := hid_ (fun k (hk : k < n) => partF_set (spF l j) T (k := k) (by rw [hlen]; exact hk))
      have HFl := hid_ (fun k (hk : k ≤ n) => (partF_len (spF l j) T (k := k) (by rw [hlen]; exact hk)).trans hlen)
      have hn6 : n ≤ 6 := by have := g.le; omega
      have hm6 : n0 T ≤ 6 := g.w6
      have Hb1 := hid_ b1
      clear hE HR h hlen g h' hp0 hp1 hal b1
      generalize n0 T = m at *
      generalize partF (spF l j) T = F at *
      rw [HE'.out, HR'.out]
      go_enter Try.func53, Try.ntmps53
      go_wp2_with (first
        | (go_at_call 59; (with_reducible refine (HV.out _ (below_alloc _ _) _ _ _ (IntsAt.one _ _ _)).mono ?_); rintro e w2 ⟨rfl, rfl⟩)
        | (go_at_call 90; (with_reducible refine (HAl.out _ Hb1.out).mono ?_); rintro e w3 ⟨rfl, q, rfl⟩; have Hb2 := hid_ (below_drewN Hb1.out q))
        | (go_at_call 91; (with_reducible refine (HC.out _ Hb2.out).mono ?_); rintro e w3 ⟨v3, us, rfl, ho3, hb3⟩; obtain ⟨g3, cap3, rfl, hc1, hc2, hg1, hg2⟩ := own_form7 ho3.top (by rw [Hlen.out]; omega); rw [Hlen.out] at ho3 hc1 ⊢; have Ho3 := hid_ (ho3.base Hb2.out.size); have Hb3 := hid_ (Hb2.out.trans (hb3.mono Hb2.out.size)); have Hg1 := hid_ (Nat.le_trans Hb2.out.size hg1); clear ho3 hb3 hg1 hg2))
      go_loopw [26] (fun i wr => ∃ k : Nat, k ≤ n ∧ i = .int .i64 k ∧ OwnRw 28 3 wr w.heap.size (.slice (some ⟨g3, 0, none⟩) n cap3) us (F k) ∧ Below w.heap.size w wr) (fun i _ => n - (intOf i).toNat)
      case atStart => exact ⟨0, Nat.zero_le _, rfl, by rw [HF0.out]; exact Ho3.out, Hb3.out⟩
      case round =>
        obtain ⟨k, hk, rfl, hO, hbr⟩ := hrel
        by_cases hlt : k < n
        · have hFl := HFl.out k hk
          obtain ⟨u, hu, hro⟩ := hO.row k (by rw [hFl]; exact hlt)
          rw [HFa.out k hlt, Hrow.out k hlt] at hro
          obtain ⟨g4, cap4, rfl, hd1, hd2, hd3, hd4⟩ := own_form7 hro (by omega)
          have htop := hO.top
          rw [hFl] at htop
          have qk : wr.cell? ⟨g3, k, none⟩ = some (.slice (some ⟨g4, 0, none⟩) m cap4) := by rw [htop.cellAt k (by omega)]; exact hu
          obtain ⟨qj, fj⟩ := own_cell7 hro hjm
          have hok := Hok.out k hlt
          have Hset := hid_ (HFs.out k hlt)
          have hsp : spF l j (T.getD k []) = (T.getD k []).set j (l.getD ((T.getD k []).getD j 0).toNat 0) := rfl
          rw [hsp] at Hset
          obtain ⟨s1, s2⟩ := hro.stored j (.int .i64 (l.getD ((T.getD k []).getD j 0).toNat 0))
          rw [← List.map_set] at s1
          have hrl : ((T.getD k []).set j (l.getD ((T.getD k []).getD j 0).toNat 0)).length = m := by rw [List.length_set]; exact Hrow.out k hlt
          have HT := hid_ (hO.turn (i := k) (r := (T.getD k []).set j (l.getD ((T.getD k []).getD j 0).toNat 0)) hu s2 (by rw [hrl]; exact s1))
          rw [Hset.out] at HT
          have Hb5 := hid_ (Below.setCell (p := ⟨g4, j, none⟩) hbr hd3 (.int .i64 (l.getD ((T.getD k []).getD j 0).toNat 0)))
          obtain ⟨x, hx⟩ := nat_of hok.1
          rw [hx, Int.toNat_natCast] at HT Hb5
          rw [hx] at qj hok
          have hx3 : x < 3 := by omega
          obtain ⟨b9, off9, rfl, hb9, q9⟩ := (HLl.out wr hbr).cells x hx3
          generalize l.getD x 0 = y at *
          clear hO htop hro hsp s1 s2 hrl hd3 hd4 hu Hset hx
          go_wp2
          go_roundw
          case rel => exact ⟨k + 1, by omega, by go_num, HT.out, Hb5.out⟩
          case measure => simp [intOf]; omega
        · obtain rfl : k = n := by omega
          rw [HFn.out] at hO
          have HO := hid_ hO
          clear hO
          go_wp2
          go_ret2
          exact ⟨_, us, rfl, HO.out, hbr⟩
  · have HE' : Hid (E = placesE T [p]) := hid_ (HE.out.trans (if_neg he))
    have HR' : Hid (R = []) := hid_ (HR.out.trans (if_neg (by rw [HE'.out]; exact he)))
    have hq : (placesE T [p] != 0) = true := by simpa using he
    rw [HE'.out, HR'.out]
    generalize placesE T [p] = x at *
    clear he HE HR b1
    go_enter Try.func53, Try.ntmps53
    go_wp2_with (go_at_call 59; (with_reducible refine (HV.out _ (below_alloc _ _) _ _ _ (IntsAt.one _ _ _)).mono ?_); rintro e w2 ⟨rfl, rfl⟩)
    go_ret2
    exact ⟨_, [], rfl, OwnRw.nil _ _ (by decide), below_alloc _ _⟩
end Go.Proofs.Ytdhmcmkpeaoigaa
