import Derived.Test.YtdhmcmkpeaoigaaYT
namespace Go.Proofs.Ytdhmcmkpeaoigaa
open Go.RowKit Go.Proofs.Kv Go

/-! ### Spell of the document -/
set_option maxRecDepth 100000 in
set_option maxHeartbeats 4000000 in
theorem r7Spell_calls (a : Option Addr) (n c : Nat) (T : List (List Int)) (p : Int) (al : Option Addr) (nl cl : Nat) (l : List Int) (w : World) (h : ListsAt w a n c T) (h' : IntsAt w al nl cl l) :
    Calls Try.prog 54 #[.slice a n c, .int .i64 p, .slice al nl cl] w fun e w' => ∃ v us, e = .returned (.tuple #[v, .int .i64 (spellE T p l)]) ∧ OwnRw 28 3 w' w.heap.size v us (resSpell T p l) ∧ Below w.heap.size w w' := by
  have HV := hid_ (placed_calls a n c T p w h)
  have HR : Hid (resSpell T p l = if spellE T p l = 0 then T.map (spF l p.toNat) else []) := hid_ rfl
  have HE : Hid (spellE T p l = if placesE T [p] = 0 then (if allRB l = true then 0 else 1) else placesE T [p]) := hid_ rfl
  have hlen := h.len
  have hnl : nl ≤ 9223372036854775807 := Nat.le_trans h'.le h'.small
  have hll := h'.len
  generalize resSpell T p l = R at *
  generalize spellE T p l = E at *
  by_cases he : placesE T [p] = 0
  · obtain ⟨g, hp0, hp1⟩ := placesE_one he
    have hE := HE.out.trans (if_pos he)
    rw [he] at HV
    clear he HE
    obtain ⟨j, rfl⟩ := nat_of hp0
    by_cases h3 : nl = 3
    · have hq3 : ((nl : Int) != 3) = false := by simp; omega
      have HL := hid_ (fun q => h'.drewN q)
      have Hll := hid_ hll
      have hno := fun k (hk : k < 3) hh => @allRB_no l k hk hh
      have hyes := @allRB_of l
      rw [hll, h3] at hyes
      have HN : Hid (∀ k : Nat, k < 3 → decide ((k : Int) ∈ l) = false → E = 1 ∧ R = []) := hid_ (fun k hk hh => by
        have h1 := hno k hk hh
        rw [h1] at hE
        have hE' : E = 1 := hE
        exact ⟨hE', HR.out.trans (if_neg (by rw [hE']; decide))⟩)
      have HY : Hid ((∀ k : Nat, k < 3 → decide ((k : Int) ∈ l) = true) → E = 0 ∧ R = T.map (spF l j)) := hid_ (fun hh => by
        have h1 := hyes hh
        rw [decide_eq_true rfl] at h1
        rw [h1] at hE
        have hE' : E = 0 := hE
        exact ⟨hE', (HR.out.trans (if_pos hE')).trans (by rw [Int.toNat_natCast])⟩)
      have HC := hid_ (fun W (hW : Below w.heap.size w W) => r7Copy_calls a n c T W (h.below hW (Nat.le_refl _)) (by have := g.le; omega) (fun k hk => by rw [g.len k (by omega)]; have := g.w6; omega))
      have HLl := hid_ (fun W (hW : Below w.heap.size w W) => h'.below hW (Nat.le_refl _))
      have HLt := hid_ (fun W (hW : Below w.heap.size w W) => h.below hW (Nat.le_refl _))
      have hjm : j < n0 T := by omega
      have hn : 0 < n := by have := g.ge; omega
      have Hlen := hid_ hlen
      have Hrow := hid_ (fun k (hk : k < n) => g.len k (by omega))
      have Hok := hid_ (fun k (hk : k < n) => g.ok k (by omega) j hjm)
      have HF0 := hid_ (partF_zero (spF l j) T)
      have HFn := hid_ (partF_all (spF l j) T hlen)
      have HFa := hid_ (fun k (hk : k < n) => partF_at (spF l j) T (k := k) (by rw [hlen]; exact hk))
      have HFs := hid_ (fun k (hk : k < n) => partF_set (spF l j) T (k := k) (by rw [hlen]; exact hk))
      have HFl := hid_ (fun k (hk : k ≤ n) => (partF_len (spF l j) T (k := k) (by rw [hlen]; exact hk)).trans hlen)
      have hn6 : n ≤ 6 := by have := g.le; omega
      have hm6 : n0 T ≤ 6 := g.w6
      subst h3
      clear hE HR h hlen g h' hp0 hp1 hll hno hyes
      generalize n0 T = m at *
      generalize partF (spF l j) T = F at *
      go_enter Try.func54, Try.ntmps54
      go_wp2_with (go_at_call 61; (with_reducible refine HV.out.mono ?_); rintro e w2 ⟨rfl, q, rfl⟩)
      go_loopw [9] (fun v wr => ∃ r q : Nat, r ≤ 3 ∧ v = .int .i64 r ∧ wr = w.drewN q ∧ ∀ j, j < r → decide (((j : Nat) : Int) ∈ l) = true) (fun v _ => 3 - (intOf v).toNat)
      case atStart => exact ⟨0, q, by omega, rfl, rfl, fun j hj => absurd hj (by omega)⟩
      case round =>
        obtain ⟨r, q, hr, rfl, rfl, hall⟩ := hrel
        have Hall := hid_ hall
        clear hall
        by_cases hr3 : r < 3
        · go_wp2
          go_loopw [10, 11] (fun f i wr => ∃ k q : Nat, k ≤ 3 ∧ i = .int .i64 k ∧ f = .bool (decide ((r : Int) ∈ l.take k)) ∧ wr = w.drewN q) (fun _ i _ => 3 - (intOf i).toNat)
          case atStart => exact ⟨0, q, by omega, rfl, by simp, rfl⟩
          case round =>
            obtain ⟨k, q, hk, rfl, rfl, rfl⟩ := hrel
            by_cases hlt : k < 3
            · have hkl : k < l.length := by rw [Hll.out]; exact hlt
              have Ht := hid_ (Kv.take_snoc l 0 k hkl)
              obtain ⟨b, off, rfl, hb, hcell⟩ := (HL.out q).cells k hlt
              generalize l.getD k 0 = y at *
              cases hm : decide ((r : Int) ∈ l.take k) with
              | true =>
                have Hn : Hid (decide ((r : Int) ∈ l.take (k + 1)) = true) := hid_ (by rw [Ht.out, decide_eq_true_eq, List.mem_append]; exact .inl (of_decide_eq_true hm))
                clear hm
                go_wp2
                go_roundw
                case rel => exact ⟨k + 1, _, by omega, by go_num, by rw [Hn.out], rfl⟩
                case measure => simp [intOf]; omega
              | false =>
                have hm' := of_decide_eq_false hm
                by_cases hy : y = (r : Int)
                · have hqq : (y == (r : Int)) = true := by simpa using hy
                  have Hn : Hid (decide ((r : Int) ∈ l.take (k + 1)) = true) := hid_ (by rw [Ht.out, decide_eq_true_eq, List.mem_append]; exact .inr (by rw [hy]; exact List.mem_singleton.2 rfl))
                  clear hm hm' hy
                  go_wp2
                  go_roundw
                  case rel => exact ⟨k + 1, _, by omega, by go_num, by rw [Hn.out], rfl⟩
                  case measure => simp [intOf]; omega
                · have hqq : (y == (r : Int)) = false := by simpa using hy
                  have Hn : Hid (decide ((r : Int) ∈ l.take (k + 1)) = false) := hid_ (by rw [Ht.out, decide_eq_false_iff_not, List.mem_append]; exact fun h => h.elim hm' fun h => hy (List.mem_singleton.1 h).symm)
                  clear hm hm' hy
                  go_wp2
                  go_roundw
                  case rel => exact ⟨k + 1, _, by omega, by go_num, by rw [Hn.out], rfl⟩
                  case measure => simp [intOf]; omega
            · obtain rfl : k = 3 := by omega
              rw [List.take_of_length_le (by rw [Hll.out]; exact Nat.le_refl _)]
              cases hm : decide ((r : Int) ∈ l) with
              | true =>
                have Hm := hid_ hm
                clear hm
                go_wp2
                go_roundw
                case rel => exact ⟨r + 1, _, by omega, by go_num, rfl, fun j hj => by by_cases e : j = r; subst e; exact Hm.out; exact Hall.out j (by omega)⟩
                case measure => simp [intOf]; omega
              | false =>
                have HER := hid_ (HN.out r hr3 hm)
                clear hm
                go_wp2
                go_ret2
                exact ⟨_, [], by rw [HER.out.1]; rfl, by rw [HER.out.2]; exact OwnRw.nil _ _ (by decide), below_drewN (Below.refl _ _) _⟩
        · obtain rfl : r = 3 := by omega
          have HER := hid_ (HY.out Hall.out)
          go_wp2_with (go_at_call 52; (with_reducible refine (HC.out _ (below_drewN (Below.refl _ _) _)).mono ?_); rintro e w3 ⟨v3, us, rfl, ho3, hb3⟩; obtain ⟨g3, cap3, rfl, hc1, hc2, hg1, hg2⟩ := own_form7 ho3.top (by rw [Hlen.out]; omega); rw [Hlen.out] at ho3 hc1 ⊢; have Ho3 := hid_ ho3; have Hb3 := hid_ (below_then (below_drewN (Below.refl w.heap.size w) q) hb3); have Hg1 := hid_ hg1; clear ho3 hb3 hg1 hg2)
          go_loopw [13] (fun i wr => ∃ k : Nat, k ≤ n ∧ i = .int .i64 k ∧ OwnRw 28 3 wr w.heap.size (.slice (some ⟨g3, 0, none⟩) n cap3) us (F k) ∧ Below w.heap.size w wr) (fun i _ => n - (intOf i).toNat)
          case atStart => exact ⟨0, Nat.zero_le _, rfl, by rw [HF0.out]; exact Ho3.out, Hb3.out⟩
          case round =>
            obtain ⟨k, hk, rfl, hO, hbr⟩ := hrel
            by_cases hlt : k < n
            · have hFl := HFl.out k hk
              obtain ⟨u, hu, hro⟩ := hO.row k (by rw [hFl]; exact hlt)
              rw [HFa.out k hlt, Hrow.out k hlt] at hro
              obtain ⟨g4, cap4, rfl, hd1, hd2, hd3, hd4⟩ := own_form7 hro (by omega)
              have htop := hO.top
              rw [hFl] at htop
              have qk : wr.cell? ⟨g3, k, none⟩ = some (.slice (some ⟨g4, 0, none⟩) m cap4) := by rw [htop.cellAt k (by omega)]; exact hu
              have hok := Hok.out k hlt
              obtain ⟨b, off, a1, m1, c1, rfl, hb', hcell, hrow⟩ := (HLt.out wr hbr).cells k hlt
              have hm1 : m1 = m := by rw [← hrow.len]; exact Hrow.out k hlt
              subst hm1
              obtain ⟨b1, off1, rfl, hb1, hcell1⟩ := hrow.cells j hjm
              have Hset := hid_ (HFs.out k hlt)
              have hsp : spF l j (T.getD k []) = (T.getD k []).set j (l.getD ((T.getD k []).getD j 0).toNat 0) := rfl
              rw [hsp] at Hset
              have HS := hid_ (fun (wq : World) (hq : Below wr.heap.size wr wq) => by
                have hOq := hO.below hq (Nat.le_refl _)
                have hrq := own_below hro hq (Nat.le_refl _)
                obtain ⟨s1, s2⟩ := hrq.stored j (.int .i64 (l.getD ((T.getD k []).getD j 0).toNat 0))
                rw [← List.map_set] at s1
                have hrl : ((T.getD k []).set j (l.getD ((T.getD k []).getD j 0).toNat 0)).length = m1 := by rw [List.length_set]; exact Hrow.out k hlt
                have HT := hOq.turn (i := k) (r := (T.getD k []).set j (l.getD ((T.getD k []).getD j 0).toNat 0)) hu s2 (by rw [hrl]; exact s1)
                rw [Hset.out] at HT
                exact And.intro HT (own_cell7 hrq hjm))
              obtain ⟨x, hx⟩ := nat_of hok.1
              rw [hx, Int.toNat_natCast] at HS
              rw [hx] at hcell1 hok
              have hx3 : x < 3 := by omega
              obtain ⟨b9, off9, rfl, hb9, q9⟩ := (HLl.out wr hbr).cells x hx3
              generalize l.getD x 0 = y at *
              have gA := cell_regrown qk
              have gB := cell_regrown hcell
              have gC := cell_regrown hcell1
              have gD := cell_regrown q9
              have Hbr := hid_ hbr
              have Hd3 := hid_ hd3
              clear hO htop hro hsp hd3 hd4 hu Hset hx hrow
              go_wp2_with fail
              refine wp_region_tail 15 (by kernel_rfl) (by kernel_rfl) ?_
              simp only [List.take_succ_cons, List.take_zero, List.drop_succ_cons, List.drop_zero]
              repeat (first | go_big_quiet_skip | (go_big_quiet_want; go_big_quiet_op; first | go_big_quiet_on | go_big_quiet_call (fail)))
              refine wpQuiet_nil ?_
              rintro wq ⟨pq, hpq⟩
              have hbq := below_wq hpq
              have Hbq := hid_ (Hbr.out.trans (hbq.mono Hbr.out.size))
              obtain ⟨hOq, qj, fj⟩ := HS.out wq hbq
              have HT := hid_ hOq
              have Hb5 := hid_ (Below.setCell (p := ⟨g4, j, none⟩) Hbq.out Hd3.out (.int .i64 y))
              clear hpq hbq hOq gA gB gC gD qk hcell hcell1 q9 hbr
              go_wp2
              exact ⟨⟨k + 1, by omega, by go_num, HT.out, Hb5.out⟩, by simp [intOf]; omega⟩
            · obtain rfl : k = n := by omega
              rw [HFn.out] at hO
              have HO := hid_ hO
              clear hO
              go_wp2
              go_ret2
              exact ⟨_, us, by rw [HER.out.1]; rfl, by rw [HER.out.2]; exact HO.out, hbr⟩
    · have hq3 : ((nl : Int) != 3) = true := by simp; omega
      have hal : ¬ allRB l = true := fun hh => h3 (by rw [← hll]; exact allRB_len hh)
      have HE' : Hid (E = 1) := hid_ (hE.trans (if_neg hal))
      have HR' : Hid (R = []) := hid_ (HR.out.trans (if_neg (by rw [HE'.out]; decide)))
      clear hE HR h hlen g h' hp0 hp1 hal h3 hll
      rw [HE'.out, HR'.out]
      go_enter Try.func54, Try.ntmps54
      go_wp2_with (go_at_call 61; (with_reducible refine HV.out.mono ?_); rintro e w2 ⟨rfl, q, rfl⟩)
      go_ret2
      exact ⟨_, [], rfl, OwnRw.nil _ _ (by decide), below_drewN (Below.refl _ _) _⟩
  · have HE' : Hid (E = placesE T [p]) := hid_ (HE.out.trans (if_neg he))
    have HR' : Hid (R = []) := hid_ (HR.out.trans (if_neg (by rw [HE'.out]; exact he)))
    have hq : (placesE T [p] != 0) = true := by simpa using he
    rw [HE'.out, HR'.out]
    generalize placesE T [p] = x at *
    clear he HE HR
    go_enter Try.func54, Try.ntmps54
    go_wp2_with (go_at_call 61; (with_reducible refine HV.out.mono ?_); rintro e w2 ⟨rfl, q, rfl⟩)
    go_ret2
    exact ⟨_, [], rfl, OwnRw.nil _ _ (by decide), below_drewN (Below.refl _ _) _⟩
end Go.Proofs.Ytdhmcmkpeaoigaa
