import Derived.Test.YtebbmhlkdfmmcaaGreatJk
namespace Go.Proofs.YtebbmhlkdfmmcaaGreat
open Go.RowKit Go.Proofs.Kv

/-! ### moves -/
theorem Tryz.infoMove : (Tryz.prog.info? 90).map (fun i => (i.zero, i.size, i.bytes)) = some (some (.agg #[.int .i64 0, .int .i64 0, .slice none 0 0]), 3, 40) := by kernel_rfl
theorem row_after {v v2 v0 : Value} {s0 s1 : Nat} (h : v.ownBlock = v0.ownBlock ∨ ∃ k, v.ownBlock = some k ∧ s0 ≤ k) (h2 : v2.ownBlock = v.ownBlock ∨ v2.ownBlock = some s1) (hs : s0 ≤ s1) : v2.ownBlock = v0.ownBlock ∨ ∃ k, v2.ownBlock = some k ∧ s0 ≤ k := by
  rcases h2 with h2 | h2
  · rw [h2]; exact h
  · exact .inr ⟨_, h2, hs⟩
theorem RuleAt.keptK {F : Nat → Prop} {w w' : World} {v : Value} {R : Rl} {B : Nat} (h : RuleAt w v R) (hk : Kept F w w') (hB : w.heap.size ≤ B) (hF : ∀ b, F b → B ≤ b) : RuleAt w' v R :=
  h.below (B := w.heap.size) (hk.below (Nat.le_refl _) fun i hi => Nat.le_trans hB (hF i hi)) (Nat.le_refl _)
theorem cells_new3 (w : World) (x y z : Value) (E : TypeId) : ∀ j u, ([x, y, z] : List Value)[j]? = some u → (w.alloc (.cells #[x, y, z] E)).cell? ((⟨w.heap.size, 0, none⟩ : Addr).add j) = some u := by
  intro j u hu
  have ha : (⟨w.heap.size, 0, none⟩ : Addr).add j = ⟨w.heap.size, j, none⟩ := by unfold Addr.add; split <;> simp_all
  rw [ha, cells_alloc]
  simpa using hu
theorem wpList_append_move {P : Program} {w : World} {ops : Array Oper} {rest : List Oper} {o : Oper} {a : Act} {Q : Exit → Act → World → Prop} (hgd : o.guard = none) (s x : Operand) (t : TypeId)
    (ho : o.op = .call { callee := .builtin .append, args := #[s, x], argTypes := #[t, t] }) (i : TypeInfo) (ht : P.underlying t = some (.slice 90)) (hi : P.info? 90 = some i)
    (hz : i.zero = some (.agg #[.int .i64 0, .int .i64 0, .slice none 0 0])) (hsize : i.size = 3) (hby : i.bytes = 40) (B : Nat) (v : Value) (M : List Mv) (hs : a.eval s = v) (hown : OwnM w B v M) (m : Mv) (w1 : World) (hb1 : Below w.heap.size w w1)
    (u : Value) (hu : WordV w1 w.heap.size none u m.2) (E : TypeId) (hx : a.eval x = .slice (some ⟨w1.heap.size, 0, none⟩) 1 1) (hsm : M.length + 1 ≤ 100000) (hB : B ≤ w.heap.size)
    (h : ∀ v' w', OwnM w' B v' (M ++ [m]) → (w1.alloc (.cells #[.int .i64 m.1.1, .int .i64 m.1.2, u] E)).grownBy w' v.ownBlock → (v'.ownBlock = v.ownBlock ∨ v'.ownBlock = some (w1.heap.size + 1)) → wpList P ops Q rest (a.put o.dst v') w') :
    wpList P ops Q (o :: rest) a (w1.alloc (.cells #[.int .i64 m.1.1, .int .i64 m.1.2, u] E)) := by
  have hlt := fun k hk => (hown.lt k hk).2
  obtain ⟨vs, h0, h1, h2⟩ := hown
  have hb2 := below_alloc w1 (.cells #[.int .i64 m.1.1, .int .i64 m.1.2, u] E)
  have hu1 : u.oneCell' = true := by obtain ⟨a', n', c', rfl, _⟩ := hu; rfl
  refine wpList_append_own_at _ hgd s x t ho B 90 i _ 3 40 ht hi hz hsize hby rfl (by omega) v M.length _ hs (own_grown (own_grown h1 hb1) hb2) ⟨w1.heap.size, 0, none⟩ 1 1 (encM (m, u)) hx rfl (cells_new3 _ _ _ _ _) ?_
    (by unfold maxLen; omega) (by omega) (by have := hb1.size; simp; omega) fun v' w' k1 k2 _ k4 => ?_
  · intro y hy
    simp [encM] at hy
    rcases hy with rfl | rfl | rfl
    · rfl
    · rfl
    · exact hu1
  · exact h v' w' (OwnM.push hB h0 hlt h2 hb1 hu hb2 k1 k2 k4) k2 (by simpa using k4)
set_option maxRecDepth 100000 in
set_option maxHeartbeats 4000000 in
theorem moves_calls (A : Option Addr) (N C : Nat) (L : List Rl) (a : Option Addr) (n c : Nat) (l : List Int) (w : World) (h : RulesAt w A N C L) (h' : IntsAt w a n c l) (hL : ∀ R ∈ L, validR R = 0) (hN : N ≤ 6) (hl : validW l = 0) :
    Calls Tryz.prog 58 #[.slice A N C, .slice a n c] w fun e w' => ∃ v, e = .returned v ∧ OwnM w' w.heap.size v (movesL L l) ∧ Below w.heap.size w w' := by
  have HLn := hid_ h.len
  have Hl8 := hid_ (validW_ok hl).1
  have HE : Hid (mvTo L l N = movesL L l) := hid_ (by rw [movesL, h.len])
  have HS := hid_ (fun k => mvTo_snoc L l k)
  have Hle := hid_ (fun k => mvTo_le L (validW_ok hl).1 k)
  have HV : Hid (∀ k, k < N → err2 (L.getD k R0) l = 0) := hid_ (fun k hk => by rw [err2, getD_R0_valid hL (by rw [h.len]; exact hk), if_pos rfl, hl])
  obtain ⟨i0, hi0, hz0, hz1, hz2⟩ := info_parts Tryz.infoMove
  clear hL hl
  go_enter Tryz.func58, Tryz.ntmps58
  go_wp2
  go_loopw [5, 16] (fun v i wr => ∃ k : Nat, k ≤ N ∧ i = .int .i64 k ∧ OwnM wr w.heap.size v (mvTo L l k) ∧ Below w.heap.size w wr) (fun _ i _ => N - (intOf i).toNat)
  case atStart => exact ⟨0, Nat.zero_le _, rfl, OwnM.nil _ _, Below.refl _ _⟩
  case round =>
    obtain ⟨k, hk, rfl, hM, hb⟩ := hrel
    obtain ⟨wo, rfl⟩ : ∃ wo, wo = wr := ⟨_, rfl⟩
    obtain ⟨v0, rfl⟩ : ∃ v0, v0 = u5 := ⟨_, rfl⟩
    by_cases hlt : k < N
    · obtain ⟨b, off, a1, n1, c1, a2, n2, c2, a3, n3, c3, rfl, hbl, j0, j1, j2, j3, hr⟩ := h.at_ hlt
      have k0 := cell_below j0 hb; have k1 := cell_below j1 hb; have k2 := cell_below j2 hb; have k3 := cell_below j3 hb
      clear j0 j1 j2 j3
      have hv := HV.out k hlt
      have hs := HS.out k
      have hle0 := Hle.out k
      change wo.cell? _ = some (.int .i64 (L.getD k R0).f) at k0
      change RuleAt w (.agg #[.int .i64 (L.getD k R0).f, _, _, _]) (L.getD k R0) at hr
      generalize L.getD k R0 = R at *
      obtain ⟨wb, hwb⟩ : ∃ wb, wo.alloc (.cells #[.int .i64 R.f, .slice a1 n1 c1, .slice a2 n2 c2, .slice a3 n3 c3] 44) = wb := ⟨_, rfl⟩
      have hbb : Below wo.heap.size wo wb := by rw [← hwb]; exact below_alloc _ _
      obtain ⟨x0, x1, x2, x3⟩ := box4 hwb (Below.refl _ _)
      have hsz : wb.heap.size = wo.heap.size + 1 := by rw [← hwb]; simp
      have HP := hid_ (ruPlaces_calls _ R a n c l wb ((hr.below hb (Nat.le_refl _)).below hbb (Nat.le_refl _)) ((h'.below hb (Nat.le_refl _)).below hbb (Nat.le_refl _)))
      have HRw := hid_ hr
      have HAp := hid_ (fun p hp => @errApply_pl R l p hv hp)
      rw [hv, resPlaces, if_pos hv] at HP
      have Hs := hid_ hs; have Hv := hid_ hv; have Hle0 := hid_ hle0
      have HM := hid_ hM; have Hb := hid_ hb
      have Hbb := hid_ hbb
      have hpl : (plP R l).length ≤ 9 := by have := plP_len (R := R) (l := l); have := Hl8.out; omega
      have Hhit := hid_ (fun j hj h => @mvR_hit k R l (plP R l) j hj h)
      have Hmiss := hid_ (fun j hj h => @mvR_miss k R l (plP R l) j hj h)
      have HMp : Hid (∀ j, j < (plP R l).length → (plP R l).getD j 0 ∈ plP R l) := hid_ (fun j hj => getD_mem hj)
      have Hfull : Hid (mvR k R l ((plP R l).take (plP R l).length) = mvR k R l (plP R l)) := hid_ (by rw [List.take_length])
      have Hzero : Hid (mvR k R l ((plP R l).take 0) = []) := hid_ (by rfl)
      have Hml : Hid (∀ j, (mvR k R l ((plP R l).take j)).length ≤ 9) := hid_ (fun j => by have := mvR_le k R l ((plP R l).take j); rw [List.length_take] at this; omega)
      generalize plP R l = P at *
      have Hpl := hid_ hpl
      clear hr hs hv hle0 hM hb hbb hpl
      go_wp2_with (go_at_call 81; (with_reducible refine HP.out.mono ?_); rintro e w5 ⟨v5, rfl, hm5⟩; obtain ⟨a5, c5, rfl, hI5⟩ := hm5.at_)
      have hb5 := hm5.bel
      have HM5 := hid_ ((HM.out.next Hbb.out).next hb5)
      have HBe := hid_ (Hb.out.trans ((Hbb.out.trans (hb5.mono Hbb.out.size)).mono Hb.out.size))
      have Hx5 := hid_ (show w5.cell? ⟨wo.heap.size, 0, none⟩ = _ ∧ w5.cell? ⟨wo.heap.size, 1, none⟩ = _ ∧ w5.cell? ⟨wo.heap.size, 2, none⟩ = _ ∧ w5.cell? ⟨wo.heap.size, 3, none⟩ = _ from ⟨cell_below x0 hb5, cell_below x1 hb5, cell_below x2 hb5, cell_below x3 hb5⟩)
      have hvl := hid_ (fun k hk => (HM.out.lt k hk).2)
      have hvg := hid_ (fun k hk => (HM.out.lt k hk).1)
      have hs5 := hb5.size
      have HP5 := hid_ hI5
      have HPg := hid_ (show ∀ b off, 0 < P.length → a5 = some ⟨b, off, none⟩ → wo.heap.size < b from fun b off h0 ha => by subst ha; have := (hm5.own.lt b rfl).1; omega)
      clear hm5 hb5 x0 x1 x2 x3 hI5
      go_loopw [5, 29] (fun v i wi => ∃ j : Nat, j ≤ P.length ∧ i = .int .i64 j ∧ OwnM wi w.heap.size v (mvTo L l k ++ mvR k R l (P.take j)) ∧ Kept (fun b => v0.ownBlock = some b) w5 wi ∧ (v.ownBlock = v0.ownBlock ∨ ∃ g, v.ownBlock = some g ∧ w5.heap.size ≤ g)) (fun _ i _ => P.length - (intOf i).toNat)
      case atStart => exact ⟨0, Nat.zero_le _, rfl, by rw [Hzero.out, List.append_nil]; exact HM5.out, Kept.refl _ _, .inl rfl⟩
      case round =>
        obtain ⟨j, hj, rfl, hMi, hKi, hrow⟩ := hrel
        have hbi : Below w.heap.size w wr := HBe.out.trans (hKi.below HBe.out.size fun i hi => hvg.out i hi)
        by_cases hlt2 : j < P.length
        · obtain ⟨b', off', rfl, hb', hc⟩ := (HP5.out.kept hKi fun b off h0 ha e => by have := HPg.out b off h0 ha; have := hvl.out b e; omega).cells j hlt2
          have hne : ¬ v0.ownBlock = some wo.heap.size := fun e => by have := hvl.out _ e; omega
          obtain ⟨z0, z1, z2, z3⟩ := Hx5.out
          have y0 := hKi.cell z0 hne; have y1 := hKi.cell z1 hne; have y2 := hKi.cell z2 hne; have y3 := hKi.cell z3 hne
          have HA := hid_ (ruApply_calls _ R a n c l (P.getD j 0) wr (HRw.out.below hbi (Nat.le_refl _)) (h'.below hbi (Nat.le_refl _)))
          obtain ⟨q1, q2⟩ := HAp.out _ (HMp.out j hlt2)
          rw [q1, q2] at HA
          have h1 := Hhit.out j hlt2
          have h2 := Hmiss.out j hlt2
          generalize putErr R [P.getD j 0] l = pe at *
          generalize P.getD j 0 = p at *
          have hml : (mvTo L l k ++ mvR k R l (P.take j)).length + 1 ≤ 100000 := by rw [List.length_append]; have := Hml.out j; have := Hle0.out; omega
          have Hml1 := hid_ hml
          have hpl9 := Hpl.out
          have HMi := hid_ hMi; have HKi := hid_ hKi; have Hrow := hid_ hrow; have Hbi := hid_ hbi
          clear hml hMi hKi hrow hbi z0 z1 z2 z3 q1 q2
          generalize putRes R [p] l = r at *
          by_cases hpe : pe = 0
          · subst hpe
            have HM1 := hid_ (h1 rfl)
            clear h1 h2
            go_wp2_with (first
              | (go_at_call 82; (with_reducible refine HA.out.mono ?_); rintro e w6 ⟨v6, rfl, hm6⟩; have hw6 := Made.word hm6; obtain ⟨a6, c6, rfl, hI6⟩ := hm6.at_)
              | (at_builtin; refine wpList_append_move rfl (.tmp 42) (.tmp 48) _ rfl i0 Tryz.underlying87 hi0 hz0 hz1 hz2 w.heap.size u5 (mvTo L l k ++ mvR k R l (P.take j)) rfl HMi.out (((k : Int), p), r) w6 hm6.bel _ hw6 _ rfl Hml1.out Hbi.out.size ?_; intro v8 w8 hM8 hg8 hat8))
            go_roundw
            case rel =>
              have hs6 : w5.heap.size ≤ w6.heap.size := Nat.le_trans HKi.out.size hm6.bel.size
              refine ⟨j + 1, by omega, by go_num, by rw [HM1.out, ← List.append_assoc]; exact hM8, ?_, row_after Hrow.out hat8 (by omega)⟩
              refine ((HKi.out.next hm6.bel).next (below_alloc _ _)).grown hg8 fun i hi e => ?_
              rcases Hrow.out with q | ⟨g, q, hg⟩
              · rw [← q]; exact e
              · rw [e] at q; injection q with q; omega
            case measure => simp [intOf]; omega
          · have hq : (pe == 0) = false := by simpa using hpe
            have HM2 := hid_ (h2 hpe)
            clear h1 h2 hpe
            go_wp2_with (go_at_call 82; (with_reducible refine HA.out.mono ?_); rintro e w6 ⟨v6, rfl, hm6⟩)
            go_roundw
            case rel => exact ⟨j + 1, by omega, by go_num, by rw [HM2.out]; exact HMi.out.next hm6.bel, HKi.out.next hm6.bel, Hrow.out⟩
            case measure => simp [intOf]; omega
        · obtain rfl : P.length = j := by omega
          rw [Hfull.out, ← Hs.out] at hMi
          have HMi := hid_ hMi
          clear hMi
          go_wp2
          go_roundw
          case rel => exact ⟨k + 1, by omega, by go_num, HMi.out, hbi⟩
          case measure => simp [intOf]; omega
    · obtain rfl : N = k := by omega
      rw [HE.out] at hM
      have HM := hid_ hM
      clear hM
      go_wp2
      go_ret
      exact ⟨_, rfl, HM.out, hb⟩
end Go.Proofs.YtebbmhlkdfmmcaaGreat
