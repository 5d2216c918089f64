import Derived.Test.YtdnlpikfibdjoaaYmf
namespace Go.Proofs.Ytdnlpikfibdjoaa
open Go.RowKit Go.Proofs.Kv

/-! ### Fewest of the document -/
theorem errA_and {T : List (List Int)} {X : Tr} {p : Int} : errA T X p = if errB T X = 0 then placesE T [p] else errB T X := rfl
theorem okRead_some {T : List (List Int)} {X : Tr} {p : Nat} (he : errA T X (p : Int) = 0) : (∃ K, atK X T p = some K ∧ okRead T X (p : Int) = true ∧ fewR T X (p : Int) = refMin X T p ∧ refMin X T p < 1000) ∨ (atK X T p = none ∧ okRead T X (p : Int) = false ∧ fewR T X (p : Int) = 0 ∧ 1000 ≤ refMin X T p) := by
  obtain ⟨gT, gX, hl, hp0, hp1⟩ := errA_ok he
  have hp : p < n0 T := by omega
  have ho : okRead T X (p : Int) = (atK X T p).isSome := by rw [okRead, he, Int.toNat_natCast]; rfl
  cases hat : atK X T p with
  | none =>
    rw [hat] at ho
    have ho : okRead T X (p : Int) = false := ho
    exact .inr ⟨rfl, ho, by rw [fewR, if_neg (by rw [ho]; decide)], refMin_none gT gX hp hl hat⟩
  | some K =>
    rw [hat] at ho
    have ho : okRead T X (p : Int) = true := ho
    obtain ⟨h1, h2⟩ := refMin_some gT gX hp hl hat
    refine .inl ⟨K, rfl, ho, ?_, h2⟩
    rw [fewR, if_pos ho, readL, if_pos ho, Int.toNat_natCast, hat, h1]; rfl
set_option maxRecDepth 100000 in
set_option maxHeartbeats 4000000 in
theorem r7Fewest_calls (a : Option Addr) (n c : Nat) (T : List (List Int)) (v : Value) (X : Tr) (p : Int) (w : World) (hT : ListsAt w a n c T) (h : TreeAt w v X) :
    Calls Try.prog 27 #[.slice a n c, v, .int .i64 p] w fun e w' => e = .returned (.tuple #[.int .i64 (fewR T X p : Nat), .bool (okRead T X p), .int .i64 (errA T X p)]) ∧ Below w.heap.size w w' := by
  have HP := hid_ h
  obtain ⟨a1, n1, c1, a2, n2, c2, rfl, h1, h2⟩ := h
  obtain ⟨w1, hw1⟩ : ∃ w1, w.alloc (.cells #[.slice a1 n1 c1, .slice a2 n2 c2] 46) = w1 := ⟨_, rfl⟩
  have cb : Below w.heap.size w w1 := by rw [← hw1]; exact below_alloc _ _
  have q0 : w1.cell? ⟨w.heap.size, 0, none⟩ = some (.slice a1 n1 c1) := by rw [← hw1]; exact cells_alloc _ _ _ 0
  have q1 : w1.cell? ⟨w.heap.size, 1, none⟩ = some (.slice a2 n2 c2) := by rw [← hw1]; exact cells_alloc _ _ _ 1
  have HP1 := hid_ (HP.out.below cb (Nat.le_refl _)); have Hc1 := hid_ cb
  have HT1 := hid_ (hT.below cb (Nat.le_refl _))
  have HV := hid_ (treed_calls a n c T _ X w1 HT1.out HP1.out)
  have HU := hid_ (fun W (hW : Below w1.heap.size w1 W) => placed_calls a n c T p W (HT1.out.below hW (Nat.le_refl _)))
  have HR := @errA_and T X p
  clear h1 h2 cb hT
  by_cases he : errB T X = 0
  · rw [if_pos he] at HR
    rw [he] at HV
    by_cases hf : placesE T [p] = 0
    · rw [hf] at HU HR
      obtain ⟨gT, gX, hl, hp0, hp1⟩ := errA_ok HR
      obtain ⟨k, rfl⟩ := nat_of hp0
      have HFew := hid_ (fun W (hW : Below w1.heap.size w1 W) => r7fewest_calls a n c T _ X k W (HT1.out.below hW (Nat.le_refl _)) (HP1.out.below hW (Nat.le_refl _)) gT gX hl (by omega))
      have hos := okRead_some HR
      rw [HR]
      clear he hf HR gT gX hl hp0 hp1
      generalize fewR T X (k : Int) = FR at *
      generalize okRead T X (k : Int) = O at *
      generalize refMin X T k = M at *
      rcases hos with ⟨K, -, rfl, rfl, hlt⟩ | ⟨-, rfl, rfl, hge⟩
      · go_enter Try.func27, Try.ntmps27
        go_wp2_with (first
          | (go_at_call 70; (with_reducible refine HV.out.mono ?_); rintro e w2 ⟨rfl, hb2⟩; have q02 := cell_below q0 hb2; have q12 := cell_below q1 hb2)
          | (go_at_call 68; (with_reducible refine (HU.out _ hb2).mono ?_); rintro e w3 ⟨rfl, q, rfl⟩; have hb3 := below_drewN hb2 q)
          | (go_at_call 71; (with_reducible refine (HFew.out _ hb3).mono ?_); rintro e w4 ⟨rfl, hb4⟩))
        go_ret3
        exact ⟨rfl, Hc1.out.trans ((hb3.trans (hb4.mono hb3.size)).mono Hc1.out.size)⟩
      · go_enter Try.func27, Try.ntmps27
        go_wp2_with (first
          | (go_at_call 70; (with_reducible refine HV.out.mono ?_); rintro e w2 ⟨rfl, hb2⟩; have q02 := cell_below q0 hb2; have q12 := cell_below q1 hb2)
          | (go_at_call 68; (with_reducible refine (HU.out _ hb2).mono ?_); rintro e w3 ⟨rfl, q, rfl⟩; have hb3 := below_drewN hb2 q)
          | (go_at_call 71; (with_reducible refine (HFew.out _ hb3).mono ?_); rintro e w4 ⟨rfl, hb4⟩))
        go_ret3
        exact ⟨rfl, Hc1.out.trans ((hb3.trans (hb4.mono hb3.size)).mono Hc1.out.size)⟩
    · have hq : (placesE T [p] != 0) = true := by simpa using hf
      have hO : Hid (okRead T X p = false) := hid_ (by rw [okRead, HR, decide_eq_false hf, Bool.false_and])
      have hF : Hid (fewR T X p = 0) := hid_ (by rw [fewR, if_neg (by rw [hO.out]; decide)])
      rw [hO.out, hF.out, HR]
      clear HR hf he
      generalize placesE T [p] = x at *
      clear hO hF
      go_enter Try.func27, Try.ntmps27
      go_wp2_with (first
        | (go_at_call 70; (with_reducible refine HV.out.mono ?_); rintro e w2 ⟨rfl, hb2⟩; have q02 := cell_below q0 hb2; have q12 := cell_below q1 hb2)
        | (go_at_call 68; (with_reducible refine (HU.out _ hb2).mono ?_); rintro e w3 ⟨rfl, q, rfl⟩; have hb3 := below_drewN hb2 q))
      go_ret3
      exact ⟨rfl, Hc1.out.trans (hb3.mono Hc1.out.size)⟩
  · rw [if_neg he] at HR
    have hq : (errB T X != 0) = true := by simpa using he
    have hO : Hid (okRead T X p = false) := hid_ (by rw [okRead, HR, decide_eq_false he, Bool.false_and])
    have hF : Hid (fewR T X p = 0) := hid_ (by rw [fewR, if_neg (by rw [hO.out]; decide)])
    rw [hO.out, hF.out, HR]
    clear HR he
    generalize errB T X = x at *
    clear hO hF
    go_enter Try.func27, Try.ntmps27
    go_wp2_with (go_at_call 70; (with_reducible refine HV.out.mono ?_); rintro e w2 ⟨rfl, hb2⟩; have q02 := cell_below q0 hb2; have q12 := cell_below q1 hb2)
    go_ret3
    exact ⟨rfl, Hc1.out.trans (hb2.mono Hc1.out.size)⟩

/-! ### CheckReadings -/
def misB (T : List (List Int)) (X : Tr) (p : Nat) (R : List Int) : Bool := (List.range T.length).any fun c => decide (R.getD (nodeX X c) 0 ≠ rdT T p c)
def errC (T : List (List Int)) (X : Tr) (p : Int) (R : List Int) : Int := if errA T X p = 0 then (if R.length = X.par.length then (if areR R = true then (if misB T X p.toNat R = true then 7 else 0) else 1) else 1) else errA T X p
def valC (T : List (List Int)) (X : Tr) (p : Int) (R : List Int) : Nat := if errC T X p R = 0 then chgR X R else 0
theorem misB_hit {T : List (List Int)} {X : Tr} {p : Nat} {R : List Int} {k : Nat} (hk : k < T.length) (h : R.getD (nodeX X k) 0 ≠ rdT T p k) : misB T X p R = true := by
  rw [misB, List.any_eq_true]; exact ⟨k, List.mem_range.2 hk, decide_eq_true h⟩
theorem misB_no {T : List (List Int)} {X : Tr} {p : Nat} {R : List Int} {n : Nat} (hn : T.length = n) (h : ∀ k, k < n → R.getD (nodeX X k) 0 = rdT T p k) : misB T X p R = false := by
  rw [misB, List.any_eq_false]; intro k hk; have := h k (by have := List.mem_range.1 hk; omega); rw [this]; simp
set_option maxRecDepth 100000 in
set_option maxHeartbeats 4000000 in
theorem stCheck_calls (a : Option Addr) (n c : Nat) (T : List (List Int)) (v : Value) (X : Tr) (p : Int) (ar : Option Addr) (m cr : Nat) (R : List Int) (w : World) (hT : ListsAt w a n c T) (h : TreeAt w v X) (hR : IntsAt w ar m cr R) :
    Calls Try.prog 47 #[.slice a n c, v, .int .i64 p, .slice ar m cr] w fun e w' => e = .returned (.tuple #[.int .i64 (valC T X p R : Nat), .int .i64 (errC T X p R)]) ∧ Below w.heap.size w w' := by
  have HP := hid_ h
  obtain ⟨a1, n1, c1, a2, n2, c2, rfl, h1, h2⟩ := h
  obtain ⟨w1, hw1⟩ : ∃ w1, w.alloc (.cells #[.slice a1 n1 c1, .slice a2 n2 c2] 46) = w1 := ⟨_, rfl⟩
  have cb : Below w.heap.size w w1 := by rw [← hw1]; exact below_alloc _ _
  have q0 : w1.cell? ⟨w.heap.size, 0, none⟩ = some (.slice a1 n1 c1) := by rw [← hw1]; exact cells_alloc _ _ _ 0
  have q1 : w1.cell? ⟨w.heap.size, 1, none⟩ = some (.slice a2 n2 c2) := by rw [← hw1]; exact cells_alloc _ _ _ 1
  have HP1 := hid_ (HP.out.below cb (Nat.le_refl _)); have Hc1 := hid_ cb
  have HT1 := hid_ (hT.below cb (Nat.le_refl _))
  have HR1 := hid_ (hR.below cb (Nat.le_refl _))
  have H2 := hid_ (h2.below cb (Nat.le_refl _))
  have HV := hid_ (vall_calls a n c T _ X p w1 HT1.out HP1.out)
  have HAr := hid_ (fun W (hW : Below w1.heap.size w1 W) => areR_calls ar m cr R W (HR1.out.below hW (Nat.le_refl _)))
  have HVa : Hid (valC T X p R = if errC T X p R = 0 then chgR X R else 0) := hid_ rfl
  have HEr : errC T X p R = if errA T X p = 0 then (if R.length = X.par.length then (if areR R = true then (if misB T X p.toNat R = true then 7 else 0) else 1) else 1) else errA T X p := rfl
  have L1 := hid_ h1.len
  have L2 := hid_ h2.len
  have LT := hid_ hT.len
  have LR := hid_ hR.len
  have hrl2 := Nat.le_trans h2.le h2.small
  rw [L1.out, LR.out] at HEr
  clear h1 h2 cb hT hR
  by_cases he : errA T X p = 0
  · obtain ⟨gT, gX, hl, hp0, hp1⟩ := errA_ok he
    rw [if_pos he] at HEr
    rw [he] at HV
    clear he
    by_cases hm : m = n1
    · rw [if_pos hm] at HEr
      have hq : ((m : Int) != (n1 : Int)) = false := by subst hm; simp
      cases hz : areR R with
      | true =>
        rw [hz, if_pos rfl] at HEr
        rw [hz] at HAr
        have HCh := hid_ (fun W (hW : Below w1.heap.size w1 W) => changes_calls _ X ar m cr R W (HP1.out.below hW (Nat.le_refl _)) (HR1.out.below hW (Nat.le_refl _)) gX (by rw [hm, L1.out]))
        obtain ⟨k, rfl⟩ := nat_of hp0
        rw [Int.toNat_natCast] at HEr
        have hp : k < n0 T := by omega
        have HHit := hid_ (fun j hj hh => @misB_hit T X k R j hj hh)
        have HNo := hid_ (@misB_no T X k R n LT.out)
        have HAt := hid_ (fun i (hi : i < n) => gX.at_ i (by rw [hl, LT.out]; exact hi))
        have HRl := hid_ (fun i (hi : i < n) => gT.len i (by rw [LT.out]; exact hi))
        have Hnx : Hid (∀ v, nodeX X v = (X.at_.getD v 0).toNat) := hid_ (fun v => rfl)
        have Hrd : Hid (∀ j, rdT T k j = (T.getD j []).getD k 0) := hid_ (fun v => rfl)
        have Hn21 : Hid (n2 = n) := hid_ (by rw [← L2.out, ← LT.out]; exact hl)
        have HEr := hid_ HEr
        have hmm := hid_ hm
        clear hz gT gX hl hp0 hp1 hm
        generalize valC T X (k : Int) R = VC at *
        generalize errC T X (k : Int) R = EC at *
        rw [L1.out] at HAt
        go_enter Try.func47, Try.ntmps47
        go_wp2_with (first
          | (go_at_call 98; (with_reducible refine HV.out.mono ?_); rintro e w2 ⟨rfl, hb2⟩; have q02 := cell_below q0 hb2; have q12 := cell_below q1 hb2)
          | (go_at_call 88; (with_reducible refine (HAr.out _ hb2).mono ?_); rintro e w3 ⟨rfl, rfl⟩))
        have Hb2 := hid_ hb2
        clear hb2
        go_loopw [34] (fun i wr => ∃ (j q : Nat), j ≤ n2 ∧ i = .int .i64 j ∧ wr = w2.drewN q ∧ ∀ l, l < j → R.getD (nodeX X l) 0 = rdT T k l) (fun i _ => n2 - (intOf i).toNat)
        case atStart => exact ⟨0, 0, Nat.zero_le _, rfl, rfl, fun _ h => absurd h (by omega)⟩
        case round =>
          obtain ⟨j, q, hj, rfl, hq', hall⟩ := hrel
          have Hall := hid_ hall; have Hq := hid_ hq'
          have hbr : Below w1.heap.size w1 wr := by rw [hq']; exact below_drewN Hb2.out q
          have Hbr := hid_ hbr
          clear hall hq'
          by_cases hlt : j < n2
          · have hjn : j < n := by rw [← Hn21.out]; exact hlt
            obtain ⟨b, off, rfl, hb0, hcell⟩ := (H2.out.below hbr (Nat.le_refl _)).cells j hlt
            obtain ⟨b1, off1, a3, n3, c3, rfl, hb1, hcell1, hrow⟩ := (HT1.out.below hbr (Nat.le_refl _)).cells j hjn
            have hpn : k < n3 := by rw [← hrow.len, HRl.out j hjn]; exact hp
            have hr3 := Nat.le_trans hrow.le hrow.small
            obtain ⟨b2, off2, rfl, hb2, hcell2⟩ := hrow.cells k hpn
            have hat := HAt.out j hjn
            have hnx := Hnx.out j
            generalize X.at_.getD j 0 = y at *
            obtain ⟨y, rfl⟩ := nat_of hat.1
            rw [Int.toNat_natCast] at hnx
            have hym : y < m := by have := hmm.out; omega
            obtain ⟨b3, off3, rfl, hb3, hcell3⟩ := (HR1.out.below hbr (Nat.le_refl _)).cells y hym
            rw [← Hrd.out] at hcell2
            have hhit := HHit.out j (by rw [LT.out]; exact hjn)
            have hno := fun hx => lt_snoc (p := fun l => R.getD (nodeX X l) 0 = rdT T k l) Hall.out hx
            rw [hnx] at hhit hno
            generalize R.getD y 0 = s at *
            generalize rdT T k j = r at *
            clear hnx hrow hbr
            by_cases hsr : s = r
            · have Hf := hid_ (hno hsr)
              have hqq : (s != r) = false := by simpa using hsr
              clear hsr hno hhit
              go_wp2_with fail
              go_quiet (fail)
              go_wp2
              go_roundw
              case rel => exact ⟨j + 1, _, by omega, by go_num, by rw [Hq.out, drewN2], Hf.out⟩
              case measure => simp [intOf]; omega
            · have Hf := hid_ (hhit hsr)
              have hqq : (s != r) = true := by simpa using hsr
              have HE7 : Hid (EC = 7) := hid_ (HEr.out.trans (if_pos Hf.out))
              have HV0 : Hid (VC = 0) := hid_ (by rw [HVa.out, HE7.out]; rfl)
              clear hsr hno hhit
              go_wp2_with fail
              go_quiet (fail)
              go_wp2
              go_ret2
              exact ⟨by rw [HE7.out, HV0.out]; rfl, Hc1.out.trans ((below_drewN Hbr.out _).mono Hc1.out.size)⟩
          · have hjn : j = n := by rw [← Hn21.out]; omega
            rw [hjn] at Hall
            have Hf := hid_ (HNo.out Hall.out)
            have HE0 : Hid (EC = 0) := hid_ (HEr.out.trans (if_neg (by rw [Hf.out]; decide)))
            have HV0 : Hid (VC = chgR X R) := hid_ (by rw [HVa.out, HE0.out]; rfl)
            have q0r := cell_below q0 hbr
            have q1r := cell_below q1 hbr
            clear hjn hbr
            go_wp2_with (go_at_call 97; (with_reducible refine (HCh.out _ Hbr.out).mono ?_); rintro e w5 ⟨rfl, hb5⟩)
            go_ret2
            exact ⟨by rw [HE0.out, HV0.out]; rfl, Hc1.out.trans ((Hbr.out.trans (hb5.mono Hbr.out.size)).mono Hc1.out.size)⟩
      | false =>
        rw [hz, if_neg (by decide)] at HEr
        rw [hz] at HAr
        have HV0 : Hid (valC T X p R = 0) := hid_ (by rw [HVa.out, HEr]; rfl)
        rw [HEr, HV0.out]
        clear HEr HV0 HVa hz gT gX hl hp0 hp1 hm
        go_enter Try.func47, Try.ntmps47
        go_wp2_with (first
          | (go_at_call 98; (with_reducible refine HV.out.mono ?_); rintro e w2 ⟨rfl, hb2⟩; have q02 := cell_below q0 hb2; have q12 := cell_below q1 hb2)
          | (go_at_call 88; (with_reducible refine (HAr.out _ hb2).mono ?_); rintro e w3 ⟨rfl, rfl⟩))
        go_ret2
        exact ⟨rfl, Hc1.out.trans (hb2.mono Hc1.out.size)⟩
    · rw [if_neg hm] at HEr
      have hq : ((m : Int) != (n1 : Int)) = true := by simp; omega
      have HV0 : Hid (valC T X p R = 0) := hid_ (by rw [HVa.out, HEr]; rfl)
      rw [HEr, HV0.out]
      clear HEr HV0 HVa gT gX hl hp0 hp1 hm
      go_enter Try.func47, Try.ntmps47
      go_wp2_with (go_at_call 98; (with_reducible refine HV.out.mono ?_); rintro e w2 ⟨rfl, hb2⟩; have q02 := cell_below q0 hb2; have q12 := cell_below q1 hb2)
      go_ret2
      exact ⟨rfl, Hc1.out.trans (hb2.mono Hc1.out.size)⟩
  · rw [if_neg he] at HEr
    have hq : (errA T X p != 0) = true := by simpa using he
    have HV0 : Hid (valC T X p R = 0) := hid_ (by rw [HVa.out, HEr, if_neg he])
    rw [HEr, HV0.out]
    clear HEr HV0 HVa he
    generalize errA T X p = x at *
    go_enter Try.func47, Try.ntmps47
    go_wp2_with (go_at_call 98; (with_reducible refine HV.out.mono ?_); rintro e w2 ⟨rfl, hb2⟩; have q02 := cell_below q0 hb2; have q12 := cell_below q1 hb2)
    go_ret2
    exact ⟨rfl, Hc1.out.trans (hb2.mono Hc1.out.size)⟩
end Go.Proofs.Ytdnlpikfibdjoaa
