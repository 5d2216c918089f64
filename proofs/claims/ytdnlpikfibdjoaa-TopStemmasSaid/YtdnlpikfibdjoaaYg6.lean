import Derived.Test.YtdnlpikfibdjoaaYg5
namespace Go.Proofs.Ytdnlpikfibdjoaa
open Go.RowKit Go.Proofs.Kv Go

/-! ### Greatest of the program -/
def resGreat (T : List (List Int)) : List Int := if validT T = 0 then greatB T (n0 T) (2 ^ n0 T) else []
theorem memB_lt (m b : Nat) {j : Nat} (hj : j < (memB m b).length) : 0 ≤ (memB m b).getD j 0 ∧ (memB m b).getD j 0 < m := by
  have := getD_mem hj
  unfold memB at this ⊢
  obtain ⟨i, hi, e⟩ := List.mem_map.1 this
  rw [List.mem_filter, List.mem_range] at hi
  rw [← e]
  omega
theorem greatB_len (T : List (List Int)) (m : Nat) : ∀ k, (greatB T m k).length ≤ m
  | 0 => Nat.zero_le _
  | k + 1 => by
    unfold greatB
    split
    · exact memB_len m k
    · exact greatB_len T m k
set_option maxRecDepth 100000 in
set_option maxHeartbeats 4000000 in
theorem stGreatest_calls (a : Option Addr) (n c : Nat) (T : List (List Int)) (w : World) (h : ListsAt w a n c T) :
    Calls Try.prog 42 #[.slice a n c] w fun e w' => ∃ av cv, e = .returned (.tuple #[.slice av (resGreat T).length cv, .int .i64 (validT T)]) ∧ IntsAt w' av (resGreat T).length cv (resGreat T) ∧ Below w.heap.size w w' := by
  have HV := hid_ (stValidate_calls a n c T w h)
  have HR : Hid (resGreat T = if validT T = 0 then greatB T (n0 T) (2 ^ n0 T) else []) := hid_ rfl
  generalize resGreat T = R at *
  by_cases he : validT T = 0
  · have g := validT_ok he
    have HR' : Hid (R = greatB T (n0 T) (2 ^ n0 T)) := hid_ (HR.out.trans (if_pos he))
    rw [he] at HV ⊢
    have hm6 : n0 T ≤ 6 := g.w6
    have hn : 0 < n := by have := g.ge; have := h.len; omega
    obtain ⟨b, off, a1, m1, c1, rfl, hb', hcell, hrow⟩ := h.cells 0 hn
    rw [Nat.add_zero] at hcell
    have hm : m1 = n0 T := by rw [← hrow.len]; rfl
    subst hm
    have HT := hid_ (fun W (hW : Below w.heap.size w W) => h.below hW (Nat.le_refl _))
    have Hg := hid_ g
    have hpw : 2 ^ n0 T ≤ 64 := Nat.pow_le_pow_right (by omega) hm6
    clear he HR h g hrow
    have HE : Hid (∀ k, k < 2 ^ n0 T → memB 6 k = memB (n0 T) k) := hid_ (fun k hk => memB_to hk hm6)
    have HSt := hid_ (fun k => standS_stB T k (n0 T))
    have HGl := hid_ (greatB_len T (n0 T))
    have HMl := hid_ (memB_len (n0 T))
    have HMlt := hid_ (fun k j hj => @memB_lt (n0 T) k j hj)
    have HGs : Hid (∀ k, greatB T (n0 T) (k + 1) = if (standS T (n0 T) k && bettL (memB (n0 T) k) (greatB T (n0 T) k)) = true then memB (n0 T) k else greatB T (n0 T) k) := hid_ (fun _ => rfl)
    generalize hM : n0 T = M at *
    obtain ⟨N, hN⟩ : ∃ N, 2 ^ M = N := ⟨_, rfl⟩
    rw [hN] at hpw HE HR'
    have hsh : (2 : Int) ^ M = (N : Int) := by rw [← hN]; simp
    clear hN
    have hwr : wrap64 ((2 : Int) ^ M) = (N : Int) := by rw [hsh]; clear hsh; unfold wrap64; omega
    clear hsh
    go_enter Try.func42, Try.ntmps42
    go_wp2_with (go_at_call 41; refine (HV.out).mono ?_; rintro e w' ⟨rfl, rfl⟩)
    have Hwr := hid_ hwr
    clear hwr
    go_loopw [5, 18] (fun v i wr => ∃ (k : Nat) (av : Option Addr) (cv : Nat), k ≤ N ∧ i = .int .i64 k ∧ v = .slice av (greatB T M k).length cv ∧ IntsAt wr av (greatB T M k).length cv (greatB T M k) ∧ Below w.heap.size w wr) (fun _ i _ => N - (intOf i).toNat)
    case atStart => exact ⟨0, none, 0, Nat.zero_le _, rfl, rfl, IntsAt.nil _ _ _ (by omega), Below.refl _ _⟩
    case round =>
      obtain ⟨k, av, cv, hk, rfl, rfl, hI, hbr⟩ := hrel
      have hsz := hbr.size
      by_cases hlt : k < N
      · have Hcond : Hid (decide ((k : Int) < wrap64 ((2 : Int) ^ M)) = true) := hid_ (by rw [Hwr.out]; exact decide_eq_true (by omega))
        have hgs := HGs.out k
        rw [HSt.out k] at hgs
        have hbo := bett_or (memB M k) (greatB T M k)
        have hgl := HGl.out k
        have hml := HMl.out k
        have HMem := hid_ (fun W => members_calls k (by omega) W)
        rw [HE.out k hlt] at HMem
        have HSd := hid_ (fun W (hW : Below w.heap.size w W) a' c' (hI : IntsAt W a' (memB M k).length c' (memB M k)) => stand_calls _ n c T a' _ c' (memB M k) W (HT.out W hW) hI Hg.out (fun j hj => by rw [hM]; exact HMlt.out k j hj))
        have HI := hid_ hI
        have Hb := hid_ hbr
        clear hI hbr
        have hcond := Hcond.out
        generalize hS : memB M k = S at *
        generalize hB : greatB T M k = B at *
        clear hS hB
        generalize hG1 : greatB T M (k + 1) = G1 at *
        have Hg1 := hid_ hG1
        clear hG1
        obtain ⟨ls, hls⟩ : ∃ ls, S.length = ls := ⟨_, rfl⟩
        obtain ⟨lb, hlb⟩ : ∃ lb, B.length = lb := ⟨_, rfl⟩
        have Hls := hid_ hls
        have Hlb := hid_ hlb
        rw [hls, hlb] at hbo
        rw [hls] at hml HSd
        rw [hlb] at hgl HI
        rw [hlb]
        clear hls hlb
        cases hst : stB T S with
        | false =>
          rw [hst, Bool.false_and, if_neg (by decide)] at hgs
          rw [hst] at HSd
          have Hgs := hid_ hgs
          clear hgs hst hbo
          go_wp2_with (first
            | (go_at_call 89; (with_reducible refine (HMem.out _).mono ?_); rintro e w2 ⟨v2, rfl, hm2⟩; obtain ⟨a2, c2, rfl, hi2⟩ := hm2.at_; rw [Hls.out] at hi2 ⊢; have hb2 := Hb.out.trans (hm2.bel.mono hsz); have Hi2 := hid_ hi2; have HJ2 := hid_ (HI.out.below hm2.bel (Nat.le_refl _)); clear hi2 hm2)
            | (go_at_call 90; (with_reducible refine (HSd.out _ hb2 _ _ Hi2.out).mono ?_); rintro e w3 ⟨rfl, hc3⟩; have hb3 := hb2.trans (hc3.mono hb2.size); have HJ3 := hid_ (HJ2.out.below hc3 (Nat.le_refl _)); clear hc3))
          go_roundw
          case rel => exact ⟨k + 1, av, cv, by omega, by go_num, by rw [Hg1.out, Hgs.out, Hlb.out], by rw [Hg1.out, Hgs.out, Hlb.out]; exact HJ3.out, hb3⟩
          case measure => simp [intOf]; omega
        | true =>
          rw [hst, Bool.true_and] at hgs
          rw [hst] at HSd
          have HCI := hid_ (fun W => cmpI_calls (lb : Int) (ls : Int) W)
          have HCL := hid_ (fun W a1 c1 a2 c2 (h1 : IntsAt W a1 ls c1 S) (h2 : IntsAt W a2 lb c2 B) => cmpL_calls a1 ls c1 S a2 lb c2 B W h1 h2)
          have HCO := hid_ (fun W a' c' (h' : IntsAt W a' 2 c' [cmpI (lb : Int) (ls : Int), cmpL S B]) => orI_calls a' 2 c' _ W h')
          generalize cmpI (lb : Int) (ls : Int) = x at *
          generalize cmpL S B = y at *
          generalize orI [x, y] = o at *
          cases hbt : bettL S B with
          | false =>
            rw [hbt, if_neg (by decide)] at hgs
            rw [hbt] at hbo
            have ho : ¬ o < 0 := of_decide_eq_false hbo
            have Hgs := hid_ hgs
            clear hgs hst hbo hbt
            go_wp2_with (first
              | (go_at_call 89; (with_reducible refine (HMem.out _).mono ?_); rintro e w2 ⟨v2, rfl, hm2⟩; obtain ⟨a2, c2, rfl, hi2⟩ := hm2.at_; rw [Hls.out] at hi2 ⊢; have hb2 := Hb.out.trans (hm2.bel.mono hsz); have Hi2 := hid_ hi2; have HJ2 := hid_ (HI.out.below hm2.bel (Nat.le_refl _)); clear hi2 hm2)
              | (go_at_call 90; (with_reducible refine (HSd.out _ hb2 _ _ Hi2.out).mono ?_); rintro e w3 ⟨rfl, hc3⟩; have hb3 := hb2.trans (hc3.mono hb2.size); have HJ3 := hid_ (HJ2.out.below hc3 (Nat.le_refl _)); have Hi3 := hid_ (Hi2.out.below hc3 (Nat.le_refl _)); clear hc3)
              | (go_at_call 92; (with_reducible refine (HCI.out _).mono ?_); rintro e w4 ⟨rfl, rfl⟩)
              | (go_at_call 93; (with_reducible refine (HCL.out _ _ _ _ _ Hi3.out HJ3.out).mono ?_); rintro e w5 ⟨rfl, rfl⟩)
              | (go_at_call 91; (with_reducible refine (HCO.out _ _ _ (ints_two7 _ _ _ _)).mono ?_); rintro e w6 ⟨rfl, rfl⟩))
            go_roundw
            case rel => exact ⟨k + 1, av, cv, by omega, by go_num, by rw [Hg1.out, Hgs.out, Hlb.out], by rw [Hg1.out, Hgs.out, Hlb.out]; exact HJ3.out.below (below_alloc _ _) (Nat.le_refl _), hb3.alloc hb3.size _⟩
            case measure => simp [intOf]; omega
          | true =>
            rw [hbt, if_pos rfl] at hgs
            rw [hbt] at hbo
            have ho : o < 0 := of_decide_eq_true hbo
            have Hgs := hid_ hgs
            clear hgs hst hbo hbt
            go_wp2_with (first
              | (go_at_call 89; (with_reducible refine (HMem.out _).mono ?_); rintro e w2 ⟨v2, rfl, hm2⟩; obtain ⟨a2, c2, rfl, hi2⟩ := hm2.at_; rw [Hls.out] at hi2 ⊢; have hb2 := Hb.out.trans (hm2.bel.mono hsz); have Hi2 := hid_ hi2; have HJ2 := hid_ (HI.out.below hm2.bel (Nat.le_refl _)); clear hi2 hm2)
              | (go_at_call 90; (with_reducible refine (HSd.out _ hb2 _ _ Hi2.out).mono ?_); rintro e w3 ⟨rfl, hc3⟩; have hb3 := hb2.trans (hc3.mono hb2.size); have HJ3 := hid_ (HJ2.out.below hc3 (Nat.le_refl _)); have Hi3 := hid_ (Hi2.out.below hc3 (Nat.le_refl _)); clear hc3)
              | (go_at_call 92; (with_reducible refine (HCI.out _).mono ?_); rintro e w4 ⟨rfl, rfl⟩)
              | (go_at_call 93; (with_reducible refine (HCL.out _ _ _ _ _ Hi3.out HJ3.out).mono ?_); rintro e w5 ⟨rfl, rfl⟩)
              | (go_at_call 91; (with_reducible refine (HCO.out _ _ _ (ints_two7 _ _ _ _)).mono ?_); rintro e w6 ⟨rfl, rfl⟩))
            go_roundw
            case rel => exact ⟨k + 1, a2, c2, by omega, by go_num, by rw [Hg1.out, Hgs.out, Hls.out], by rw [Hg1.out, Hgs.out, Hls.out]; exact Hi3.out.below (below_alloc _ _) (Nat.le_refl _), hb3.alloc hb3.size _⟩
            case measure => simp [intOf]; omega
      · obtain rfl : k = N := by omega
        have HI := hid_ hI
        clear hI
        have hcond : decide ((k : Int) < wrap64 ((2 : Int) ^ M)) = false := by rw [Hwr.out]; exact decide_eq_false (by omega)
        go_wp2
        go_ret2
        exact ⟨av, cv, by rw [HR'.out]; rfl, by rw [HR'.out]; exact HI.out, hbr⟩
  · have HR' : Hid (R = []) := hid_ (HR.out.trans (if_neg he))
    have hq : (validT T != 0) = true := by simpa using he
    generalize validT T = x at *
    clear he HR
    go_enter Try.func42, Try.ntmps42
    go_wp2_with (go_at_call 41; refine (HV.out).mono ?_; rintro e w' ⟨rfl, rfl⟩)
    go_ret2
    exact ⟨none, 0, by rw [HR'.out]; rfl, by rw [HR'.out]; exact IntsAt.nil _ _ _ (by omega), Below.refl _ _⟩
end Go.Proofs.Ytdnlpikfibdjoaa
