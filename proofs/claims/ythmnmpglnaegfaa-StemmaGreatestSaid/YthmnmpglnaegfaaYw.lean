import Derived.Test.YthmnmpglnaegfaaYv
namespace Go.Proofs.Ythmnmpglnaegfaa
open Go.RowKit Go.Proofs.Kv

/-! ### changes, Readings, Fewest of the program -/
def chgR (X : Tr) (R : List Int) : Nat := sumN (fun i => if i = 0 then 0 else ne1 (R.getD i 0) (R.getD (parX X i) 0)) X.par.length
def chgI (X : Tr) (R : List Int) (k : Nat) : Nat := sumN (fun i => if i = 0 then 0 else ne1 (R.getD i 0) (R.getD (parX X i) 0)) k
theorem chgI_le (X : Tr) (R : List Int) (k : Nat) : chgI X R k ≤ k := by
  induction k with
  | zero => exact Nat.le_refl _
  | succ k ih =>
    have e : chgI X R (k + 1) = chgI X R k + if k = 0 then 0 else ne1 (R.getD k 0) (R.getD (parX X k) 0) := rfl
    rw [e]
    have := ne1_le (R.getD k 0) (R.getD (parX X k) 0)
    split <;> omega
set_option maxRecDepth 100000 in
set_option maxHeartbeats 2000000 in
theorem changes_calls (v : Value) (X : Tr) (ar : Option Addr) (m cr : Nat) (R : List Int) (w : World) (h : TreeAt w v X) (hR : IntsAt w ar m cr R) (gX : GoodX X) (hm : m = X.par.length) :
    Calls Try.prog 49 #[v, .slice ar m cr] w fun e w' => e = .returned (.int .i64 (chgR X R : Nat)) ∧ Below w.heap.size w w' := by
  have HP := hid_ h
  obtain ⟨a1, n1, c1, a2, n2, c2, rfl, h1, h2⟩ := h
  obtain ⟨w1, hw1⟩ : ∃ w1, w.alloc (.cells #[.slice a1 n1 c1, .slice a2 n2 c2] 31) = w1 := ⟨_, rfl⟩
  have cb : Below w.heap.size w w1 := by rw [← hw1]; exact below_alloc _ _
  have q0 : w1.cell? ⟨w.heap.size, 0, none⟩ = some (.slice a1 n1 c1) := by rw [← hw1]; exact cells_alloc _ _ _ 0
  have q1 : w1.cell? ⟨w.heap.size, 1, none⟩ = some (.slice a2 n2 c2) := by rw [← hw1]; exact cells_alloc _ _ _ 1
  have HP1 := hid_ (HP.out.below cb (Nat.le_refl _)); have Hc1 := hid_ cb
  have H1 := hid_ (h1.below cb (Nat.le_refl _))
  have HR1 := hid_ (hR.below cb (Nat.le_refl _))
  have L1 := hid_ h1.len
  have hnn : n1 = m := by rw [← h1.len, hm]
  subst hnn
  have g1 := gX.ge; have g16 := gX.le
  rw [L1.out] at g1 g16
  have HP := hid_ (fun v h0 (hv : v < n1) => parX_lt gX v h0 (by rw [L1.out]; exact hv))
  have HPar := hid_ (fun v h0 (hv : v < n1) => gX.par v h0 (by rw [L1.out]; exact hv))
  have Hpx : Hid (∀ v, parX X v = (X.par.getD v 0).toNat) := hid_ (fun v => rfl)
  have HC : Hid (chgR X R = chgI X R n1) := hid_ (by rw [chgR, L1.out]; rfl)
  have HS : Hid (∀ k, chgI X R (k + 1) = chgI X R k + if k = 0 then 0 else ne1 (R.getD k 0) (R.getD (parX X k) 0)) := hid_ (fun k => rfl)
  have HL := hid_ (chgI_le X R)
  have Hz : Hid (chgI X R 0 = 0) := hid_ rfl
  clear h1 h2 cb hR gX hm
  generalize chgR X R = CR at *
  go_enter Try.func49, Try.ntmps49
  go_wp2
  go_loopw [5, 10] (fun v i wr => ∃ (k q : Nat), k ≤ n1 ∧ i = .int .i64 k ∧ v = .int .i64 (chgI X R k : Nat) ∧ wr = w1.drewN q) (fun _ i _ => n1 - (intOf i).toNat)
  case atStart => exact ⟨0, 0, Nat.zero_le _, rfl, by rw [Hz.out]; rfl, rfl⟩
  case round =>
    obtain ⟨k, q, hk, rfl, rfl, hq⟩ := hrel
    have Hq := hid_ hq
    have q0r : wr.cell? ⟨w.heap.size, 0, none⟩ = some (.slice a1 n1 c1) := by rw [hq]; exact q0
    have hI1 : IntsAt wr a1 n1 c1 X.par := by rw [hq]; exact H1.out.drewN q
    have hIR : IntsAt wr ar n1 cr R := by rw [hq]; exact HR1.out.drewN q
    clear hq
    have hl := HL.out k
    have hs := HS.out k
    by_cases hlt : k < n1
    · by_cases hk0 : k = 0
      · have hq0 : ¬ (0 < (k : Int)) := by omega
        have hs' : chgI X R (k + 1) = chgI X R k := by rw [hs, if_pos hk0, Nat.add_zero]
        have Hs := hid_ hs'
        have hqd : decide (0 < k) = false := decide_eq_false (by omega)
        clear hs hk0 hs'
        generalize chgI X R k = z at *
        go_wp2_with fail
        go_quiet (fail)
        go_wp2
        go_roundw
        case rel => exact ⟨k + 1, _, by omega, by go_num, by rw [Hs.out], by rw [Hq.out, drewN2]⟩
        case measure => simp [intOf]; omega
      · have hq0 : 0 < (k : Int) := by omega
        have hqn : 0 < k := by omega
        have hqd : decide (0 < k) = true := decide_eq_true hqn
        rw [if_neg hk0] at hs
        have hpl := HP.out k hqn hlt
        have hpr := HPar.out k hqn hlt
        have hpx := Hpx.out k
        obtain ⟨b, off, rfl, hb0, hcell⟩ := hI1.cells k hlt
        obtain ⟨b1, off1, rfl, hb1, hcell1⟩ := hIR.cells k hlt
        obtain ⟨b2, off2, e, hb2, hcell2⟩ := hIR.cells (parX X k) (by omega)
        injection e with e; injection e with e1 e2; subst e1; subst e2
        generalize X.par.getD k 0 = y at *
        obtain ⟨y, rfl⟩ := nat_of hpr.1
        rw [Int.toNat_natCast] at hpx
        rw [hpx] at hcell2 hs hpl
        generalize hz : chgI X R k = z at *
        clear hz
        generalize R.getD k 0 = r at *
        generalize R.getD y 0 = s at *
        clear hpx hk0 hI1 hIR
        by_cases hrs : r = s
        · have hqq : (r != s) = false := by simpa using hrs
          have hs' : chgI X R (k + 1) = z := by rw [hs, ne1, if_pos hrs, Nat.add_zero]
          have Hs := hid_ hs'
          clear hs hrs hs'
          go_wp2_with fail
          go_quiet (fail)
          go_wp2
          go_roundw
          case rel => exact ⟨k + 1, _, by omega, by go_num, by rw [Hs.out], by rw [Hq.out, drewN2]⟩
          case measure => simp [intOf]; omega
        · have hqq : (r != s) = true := by simpa using hrs
          have Hs := hid_ (hs.trans (by rw [ne1, if_neg hrs]))
          clear hs hrs
          go_wp2_with fail
          go_quiet (fail)
          go_wp2
          go_roundw
          case rel => exact ⟨k + 1, _, by omega, by go_num, by rw [Hs.out]; go_num, by rw [Hq.out, drewN2]⟩
          case measure => simp [intOf]; omega
    · obtain rfl : k = n1 := by omega
      clear hs
      rw [← HC.out]
      go_wp2
      go_ret
      exact ⟨rfl, by rw [Hq.out]; exact below_drewN Hc1.out _⟩
theorem foldK_ok {X : Tr} {T : List (List Int)} {p : Nat} (gT : GoodT T) (gX : GoodX X) (hp : p < n0 T) (hl : X.at_.length = T.length) : ∀ {k : Nat} {K : List Int}, k ≤ T.length → foldK X T p k = some K → (∀ v, -1 ≤ K.getD v 0 ∧ K.getD v 0 ≤ 2) ∧ (∀ c, c < k → K.getD (nodeX X c) 0 = rdT T p c) ∧ ∀ v, v < X.par.length → K.getD v 0 ≠ -1 → ∃ c, c < k ∧ nodeX X c = v
  | 0, K, _, h => by
    injection h with h
    subst h
    refine ⟨fun v => ?_, fun c hc => absurd hc (by omega), fun v hv hne => ?_⟩
    · by_cases hv : v < X.par.length
      · simp [List.getD, hv]
      · simp [List.getD, List.getElem?_eq_none (show (List.replicate X.par.length (-1 : Int)).length ≤ v by simp; omega)]
    · exact absurd (by simp [List.getD, hv]) hne
  | k + 1, K, hk, h => by
    rw [foldK] at h
    obtain ⟨K', h1, h2⟩ := Option.bind_eq_some_iff.1 h
    obtain ⟨i1, i2, i3⟩ := foldK_ok gT gX hp hl (by omega) h1
    have hlen := foldK_len h1
    have hat := gX.at_ k (by omega)
    have hn : nodeX X k < X.par.length := by unfold nodeX; omega
    have hr := gT.ok k (by omega) p hp
    have hr' : 0 ≤ rdT T p k ∧ rdT T p k ≤ 2 := hr
    unfold stepK at h2
    split at h2
    · cases h2
    · rename_i hc
      injection h2 with h2
      subst h2
      have hg : ∀ v, (K'.set (nodeX X k) (rdT T p k)).getD v 0 = if v = nodeX X k then rdT T p k else K'.getD v 0 := fun v => by
        simp only [List.getD, List.getElem?_set]
        by_cases e : nodeX X k = v
        · subst e; simp [show nodeX X k < K'.length by omega]
        · rw [if_neg e, if_neg (Ne.symm e)]
      refine ⟨fun v => ?_, fun c hc' => ?_, fun v hv hne => ?_⟩
      · rw [hg]
        split
        · omega
        · exact i1 v
      · rw [hg]
        by_cases e : c = k
        · subst e; rw [if_pos rfl]
        · have hck := i2 c (by omega)
          by_cases e2 : nodeX X c = nodeX X k
          · rw [if_pos e2]
            rw [e2] at hck
            rw [not_and, Decidable.not_not] at hc
            by_cases e3 : K'.getD (nodeX X k) 0 = -1
            · rw [e3] at hck
              have := gT.ok c (by omega) p hp
              have : 0 ≤ rdT T p c := this.1
              omega
            · rw [← hck]; exact (hc e3).symm
          · rw [if_neg e2]; exact hck
      · rw [hg] at hne
        by_cases e : v = nodeX X k
        · exact ⟨k, by omega, e.symm⟩
        · rw [if_neg e] at hne
          obtain ⟨c, hc1, hc2⟩ := i3 v hv hne
          exact ⟨c, by omega, hc2⟩
theorem atK_good {X : Tr} {T : List (List Int)} {p : Nat} (gT : GoodT T) (gX : GoodX X) (hp : p < n0 T) (hl : X.at_.length = T.length) {K : List Int} (h : atK X T p = some K) : GoodK K X.par.length :=
  ⟨foldK_len h, (foldK_ok gT gX hp hl (Nat.le_refl _) h).1⟩
def okRead (T : List (List Int)) (X : Tr) (p : Int) : Bool := decide (errA T X p = 0) && (atK X T p.toNat).isSome
def readL (T : List (List Int)) (X : Tr) (p : Int) : List Int := if okRead T X p = true then compL X (atV (atK X T p.toNat)) else []
def fewR (T : List (List Int)) (X : Tr) (p : Int) : Nat := if okRead T X p = true then chgR X (readL T X p) else 0
set_option maxRecDepth 100000 in
set_option maxHeartbeats 2000000 in
theorem stReadings_calls (a : Option Addr) (n c : Nat) (T : List (List Int)) (v : Value) (X : Tr) (p : Int) (w : World) (hT : ListsAt w a n c T) (h : TreeAt w v X) :
    Calls Try.prog 23 #[.slice a n c, v, .int .i64 p] w fun e w' => ∃ v', e = .returned (.tuple #[v', .bool (okRead T X p), .int .i64 (errA T X p)]) ∧ Made 3 w w' v' (readL T X p) := by
  have HP := hid_ h
  obtain ⟨a1, n1, c1, a2, n2, c2, rfl, h1, h2⟩ := h
  obtain ⟨w1, hw1⟩ : ∃ w1, w.alloc (.cells #[.slice a1 n1 c1, .slice a2 n2 c2] 31) = w1 := ⟨_, rfl⟩
  have cb : Below w.heap.size w w1 := by rw [← hw1]; exact below_alloc _ _
  have q0 : w1.cell? ⟨w.heap.size, 0, none⟩ = some (.slice a1 n1 c1) := by rw [← hw1]; exact cells_alloc _ _ _ 0
  have q1 : w1.cell? ⟨w.heap.size, 1, none⟩ = some (.slice a2 n2 c2) := by rw [← hw1]; exact cells_alloc _ _ _ 1
  have HP1 := hid_ (HP.out.below cb (Nat.le_refl _)); have Hc1 := hid_ cb
  have HT1 := hid_ (hT.below cb (Nat.le_refl _))
  have HV := hid_ (vall_calls a n c T _ X p w1 HT1.out HP1.out)
  have HO : Hid (okRead T X p = (decide (errA T X p = 0) && (atK X T p.toNat).isSome)) := hid_ rfl
  have HR : Hid (readL T X p = if okRead T X p = true then compL X (atV (atK X T p.toNat)) else []) := hid_ rfl
  clear h1 h2 cb hT
  by_cases he : errA T X p = 0
  · obtain ⟨gT, gX, hl, hp0, hp1⟩ := errA_ok he
    rw [he] at HV HO ⊢
    clear he
    obtain ⟨k, rfl⟩ := nat_of hp0
    rw [Int.toNat_natCast] at HO HR
    have hp : k < n0 T := by omega
    have HAt := hid_ (fun W (hW : Below w1.heap.size w1 W) => atNodes_calls a n c T _ X k W (HT1.out.below hW (Nat.le_refl _)) (HP1.out.below hW (Nat.le_refl _)) gT gX hl hp)
    have HGK := hid_ (fun K hK => @atK_good X T k gT gX hp hl K hK)
    generalize okRead T X (k : Int) = O at *
    generalize readL T X (k : Int) = RL at *
    cases hat : atK X T k with
    | none =>
      rw [hat] at HAt HO
      have Ho : Hid (O = false) := hid_ HO.out
      have Hr : Hid (RL = []) := hid_ (HR.out.trans (if_neg (by rw [Ho.out]; decide)))
      clear hat HO HR hp hp0 hp1
      rw [Ho.out, Hr.out]
      go_enter Try.func23, Try.ntmps23
      go_wp2_with (first
        | (go_at_call 50; (with_reducible refine HV.out.mono ?_); rintro e w2 ⟨rfl, hb2⟩; have q02 := cell_below q0 hb2; have q12 := cell_below q1 hb2)
        | (go_at_call 51; (with_reducible refine (HAt.out _ hb2).mono ?_); rintro e w3 ⟨v3, rfl, hm⟩))
      go_ret3
      exact ⟨_, rfl, Made.none_ _ (Hc1.out.trans ((hb2.trans (hm.bel.mono hb2.size)).mono Hc1.out.size))⟩
    | some K =>
      have gK := HGK.out K hat
      rw [hat] at HAt HO HR
      simp only [show atV (some K) = K from rfl] at HAt HR
      have Ho : Hid (O = true) := hid_ HO.out
      have Hr : Hid (RL = compL X K) := hid_ (HR.out.trans (if_pos Ho.out))
      have hKl : Hid (K.length = X.par.length) := hid_ gK.len
      have HCo := hid_ (fun W (hW : Below w1.heap.size w1 W) ak ck (hK : IntsAt W ak K.length ck K) => complete_calls _ X ak K.length ck K W (HP1.out.below hW (Nat.le_refl _)) hK gX gK)
      clear hat HO HR hp hp0 hp1
      rw [Ho.out, Hr.out]
      go_enter Try.func23, Try.ntmps23
      go_wp2_with (first
        | (go_at_call 50; (with_reducible refine HV.out.mono ?_); rintro e w2 ⟨rfl, hb2⟩; have q02 := cell_below q0 hb2; have q12 := cell_below q1 hb2)
        | (go_at_call 51; (with_reducible refine (HAt.out _ hb2).mono ?_); rintro e w3 ⟨v3, rfl, hm⟩; have hb3 := hb2.trans (hm.bel.mono hb2.size); have q03 := cell_below q0 hb3; have q13 := cell_below q1 hb3; obtain ⟨a3, c3, rfl, hi3⟩ := hm.at_; have Hi3 := hid_ hi3; clear hi3)
        | (go_at_call 52; (with_reducible refine (HCo.out _ hb3 _ _ Hi3.out).mono ?_); rintro e w4 ⟨v4, rfl, hm4⟩))
      go_ret3
      exact ⟨_, rfl, hm4.after (Hc1.out.trans (hb3.mono Hc1.out.size))⟩
  · have Ho : Hid (okRead T X p = false) := hid_ (HO.out.trans (by rw [decide_eq_false he, Bool.false_and]))
    have Hr : Hid (readL T X p = []) := hid_ (HR.out.trans (if_neg (by rw [Ho.out]; decide)))
    have hq : (errA T X p != 0) = true := by simpa using he
    rw [Ho.out, Hr.out]
    generalize errA T X p = x at *
    clear he HR HO Ho Hr
    go_enter Try.func23, Try.ntmps23
    go_wp2_with (go_at_call 50; (with_reducible refine HV.out.mono ?_); rintro e w2 ⟨rfl, hb2⟩; have q02 := cell_below q0 hb2; have q12 := cell_below q1 hb2)
    go_ret3
    exact ⟨_, rfl, Made.none_ _ (Hc1.out.trans (hb2.mono Hc1.out.size))⟩
theorem compL_len (X : Tr) (K : List Int) : (compL X K).length = X.par.length := labI_len _ _ _
set_option maxRecDepth 100000 in
set_option maxHeartbeats 2000000 in
theorem stFewest_calls (a : Option Addr) (n c : Nat) (T : List (List Int)) (v : Value) (X : Tr) (p : Int) (w : World) (hT : ListsAt w a n c T) (h : TreeAt w v X) :
    Calls Try.prog 22 #[.slice a n c, v, .int .i64 p] w fun e w' => e = .returned (.tuple #[.int .i64 (fewR T X p : Nat), .bool (okRead T X p), .int .i64 (errA T X p)]) ∧ Below w.heap.size w w' := by
  have HP := hid_ h
  obtain ⟨a1, n1, c1, a2, n2, c2, rfl, h1, h2⟩ := h
  obtain ⟨w1, hw1⟩ : ∃ w1, w.alloc (.cells #[.slice a1 n1 c1, .slice a2 n2 c2] 31) = w1 := ⟨_, rfl⟩
  have cb : Below w.heap.size w w1 := by rw [← hw1]; exact below_alloc _ _
  have q0 : w1.cell? ⟨w.heap.size, 0, none⟩ = some (.slice a1 n1 c1) := by rw [← hw1]; exact cells_alloc _ _ _ 0
  have q1 : w1.cell? ⟨w.heap.size, 1, none⟩ = some (.slice a2 n2 c2) := by rw [← hw1]; exact cells_alloc _ _ _ 1
  have HP1 := hid_ (HP.out.below cb (Nat.le_refl _)); have Hc1 := hid_ cb
  have HT1 := hid_ (hT.below cb (Nat.le_refl _))
  have HRd := hid_ (stReadings_calls a n c T _ X p w1 HT1.out HP1.out)
  have HF : Hid (fewR T X p = if okRead T X p = true then chgR X (readL T X p) else 0) := hid_ rfl
  have HO : okRead T X p = true → errA T X p = 0 ∧ GoodX X ∧ (readL T X p).length = X.par.length := fun ho => by
    have h1 := ho
    rw [okRead, Bool.and_eq_true, decide_eq_true_eq] at h1
    obtain ⟨-, gX, -⟩ := errA_ok h1.1
    exact ⟨h1.1, gX, by rw [readL, if_pos ho]; exact compL_len _ _⟩
  clear h1 h2 cb hT
  generalize fewR T X p = FR at *
  generalize errA T X p = x at *
  generalize readL T X p = RL at *
  cases ho : okRead T X p with
  | false =>
    rw [ho] at HRd HF
    have Hf : Hid (FR = 0) := hid_ (HF.out.trans (if_neg (by decide)))
    clear ho HO HF
    rw [Hf.out]
    go_enter Try.func22, Try.ntmps22
    go_wp2_with (go_at_call 23; (with_reducible refine HRd.out.mono ?_); rintro e w2 ⟨v2, rfl, hm⟩)
    go_ret3
    exact ⟨rfl, Hc1.out.trans (hm.bel.mono Hc1.out.size)⟩
  | true =>
    obtain ⟨hx0, gX, hl⟩ := HO ho
    subst hx0
    rw [ho] at HRd HF
    have Hf : Hid (FR = chgR X RL) := hid_ (HF.out.trans (if_pos rfl))
    have Hch := hid_ (fun W (hW : Below w1.heap.size w1 W) ar cr (hR : IntsAt W ar RL.length cr RL) => changes_calls _ X ar RL.length cr RL W (HP1.out.below hW (Nat.le_refl _)) hR gX hl)
    clear ho HO HF gX hl
    rw [Hf.out]
    go_enter Try.func22, Try.ntmps22
    go_wp2_with (first
      | (go_at_call 23; (with_reducible refine HRd.out.mono ?_); rintro e w2 ⟨v2, rfl, hm⟩; have hb2 := hm.bel; have q02 := cell_below q0 hb2; have q12 := cell_below q1 hb2; obtain ⟨a3, c3, rfl, hi3⟩ := hm.at_; have Hi3 := hid_ hi3; clear hi3)
      | (go_at_call 49; (with_reducible refine (Hch.out _ hb2 _ _ Hi3.out).mono ?_); rintro e w4 ⟨rfl, hb4⟩))
    go_ret3
    exact ⟨rfl, Hc1.out.trans ((hb2.trans (hb4.mono hb2.size)).mono Hc1.out.size)⟩
end Go.Proofs.Ythmnmpglnaegfaa
