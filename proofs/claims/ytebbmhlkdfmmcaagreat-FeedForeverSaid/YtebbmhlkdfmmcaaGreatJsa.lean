import Derived.Test.YtebbmhlkdfmmcaaGreatJn
import Derived.Test.YtebbmhlkdfmmcaaGreatRgn
import Derived.Test.YtebbmhlkdfmmcaaGreatJa
import Derived.Maps.AppendAt
namespace Go.Proofs.YtebbmhlkdfmmcaaGreat
open Go.RowKit Go.Proofs.Kv

/-! ### Steps, IsEnd: the program -/
theorem Tryz.infoStep : (Tryz.prog.info? 82).map (fun i => (i.zero, i.size, i.bytes)) = some (some (.agg #[.int .i64 0, .int .i64 0]), 2, 16) := by kernel_rfl
def resSteps (L : List Rl) (l : List Int) : List (Int × Int) := if errSW L [l] = 0 then (movesL L l).map (·.1) else []
theorem movesL_le (L : List Rl) {l : List Int} (h : errSW L [l] = 0) : (movesL L l).length ≤ 54 := by
  obtain ⟨h1, h2⟩ := errSW_ok' h
  have := mvTo_le L (validW_ok h2).1 L.length
  have := (validS_ok h1).1
  rw [movesL]; omega
theorem box3' {w w1 : World} {v0 v1 v2 : Value} {T : TypeId} (hw1 : w.alloc (.cells #[v0, v1, v2] T) = w1) :
    w1.cell? ⟨w.heap.size, 0, none⟩ = some v0 ∧ w1.cell? ⟨w.heap.size, 1, none⟩ = some v1 ∧ w1.cell? ⟨w.heap.size, 2, none⟩ = some v2 := by
  subst hw1
  exact ⟨cells_alloc _ _ _ 0, cells_alloc _ _ _ 1, cells_alloc _ _ _ 2⟩
theorem MovesAt.below {w w' : World} {B : Nat} {a : Option Addr} {n c : Nat} {M : List Mv} (h : MovesAt w B a n c M) (hb : Below w.heap.size w w') : MovesAt w' B a n c M := h.kept (F := fun _ => False) hb.kept fun _ _ _ h => h
def isEndB (L : List Rl) (l : List Int) : Bool := decide (errSW L [l] = 0) && decide ((movesL L l).length = 0)
end Go.Proofs.YtebbmhlkdfmmcaaGreat
namespace Go.Proofs.YtebbmhlkdfmmcaaGreat
open Go.RowKit Go.Proofs.Kv

/-! ### steps: the document -/
/-- a slice that holds a word in a row of numbers -/
def WordT (w : World) (B : Nat) (u : Value) (l : List Int) : Prop := ∃ a n c, u = .slice a n c ∧ IntsAt w a n c l ∧ ∀ b off, 0 < n → a = some ⟨b, off, none⟩ → B ≤ b ∧ ∃ cur, w.heap[b]? = some (.cells cur 3 (0, 0))
theorem WordT.mono {w : World} {B B' : Nat} {u : Value} {l : List Int} (h : WordT w B' u l) (hB : B ≤ B') : WordT w B u l := by
  obtain ⟨a, n, c, e, hi, hd⟩ := h
  exact ⟨a, n, c, e, hi, fun b off h1 h2 => ⟨Nat.le_trans hB (hd b off h1 h2).1, (hd b off h1 h2).2⟩⟩
theorem WordT.kept {F : Nat → Prop} {w w' : World} {B : Nat} {u : Value} {l : List Int} (h : WordT w B u l) (hk : Kept F w w') (hF : ∀ b cur, F b → w.heap[b]? ≠ some (.cells cur 3 (0, 0))) : WordT w' B u l := by
  obtain ⟨a, n, c, rfl, hi, hd⟩ := h
  have hn : ∀ b off, 0 < n → a = some ⟨b, off, none⟩ → ¬ F b := fun b off h1 h2 hf => by obtain ⟨_, cur, e⟩ := hd b off h1 h2; exact hF b cur hf e
  exact ⟨a, n, c, rfl, hi.kept hk hn, fun b off h1 h2 => by
    obtain ⟨hB, cur, e⟩ := hd b off h1 h2
    exact ⟨hB, cur, (hk.block b (Go.lt_of_block e) (hn b off h1 h2)).trans e⟩⟩
theorem Made.wordT {w w' : World} {v : Value} {l : List Int} (h : Made 3 w w' v l) : WordT w' w.heap.size v l := by
  have ho := h.own
  obtain ⟨a, c, rfl, hi⟩ := h.at_
  refine ⟨a, _, c, rfl, hi, fun b off hn ha => ?_⟩
  subst ha
  rcases ho.2 with ⟨e, _⟩ | ⟨g, cap, cur, e, hB, hg, _⟩
  · cases e
  · injection e with e; injection e with e; injection e with e1 _; subst e1; exact ⟨hB, cur, hg⟩
/-- v is a row of the call's own that holds slices that read as the words W, each in a row of numbers -/
def OwnT (w : World) (B : Nat) (v : Value) (W : List (List Int)) : Prop := ∃ vs : List Value, w.ownsRow B 23 1 v W.length vs ∧ ∀ (i : Nat) (u : Value), vs[i]? = some u → WordT w B u (W.getD i [])
theorem OwnT.nil (w : World) (B : Nat) : OwnT w B (.slice none 0 0) [] := ⟨[], World.ownsRow_nil _ _ _ _, fun i u h => by simp at h⟩
theorem OwnT.next {w w' : World} {B : Nat} {v : Value} {W : List (List Int)} (h : OwnT w B v W) (hb : Below w.heap.size w w') : OwnT w' B v W := by
  obtain ⟨vs, h1, h2⟩ := h
  exact ⟨vs, own_grown h1 hb, fun i u hu => (h2 i u hu).kept (F := fun _ => False) hb.kept fun _ _ h => h.elim⟩
theorem OwnT.lt {w : World} {B : Nat} {v : Value} {W : List (List Int)} (h : OwnT w B v W) : ∀ k, v.ownBlock = some k → B ≤ k ∧ k < w.heap.size := by obtain ⟨vs, h1, _⟩ := h; exact h1.lt
theorem own_obj' {w : World} {B E size : Nat} {v : Value} {n b : Nat} {xs : List Value} (h : w.ownsRow B E size v n xs) (hb : v.ownBlock = some b) : ∃ cur, w.heap[b]? = some (.cells cur E (0, 0)) := by
  rcases h.2 with ⟨rfl, _⟩ | ⟨g, cap, cur, rfl, _, hg, _⟩
  · cases hb
  · injection hb with hb; subst hb; exact ⟨cur, hg⟩
/-- the row of words while a row of steps grows -/
theorem OwnT.beside {w w' : World} {B : Nat} {v v' : Value} {W : List (List Int)} {n : Nat} {xs : List Value} (h : OwnT w B v W) (ho : w.ownsRow B 82 2 v' n xs) (hg : w.grownBy w' v'.ownBlock) : OwnT w' B v W := by
  obtain ⟨vs, h1, h2⟩ := h
  have hk : Kept (fun b => v'.ownBlock = some b) w w' := (Kept.refl _ _).grown hg fun _ _ e => e
  refine ⟨vs, ownsRow_kept h1 hk fun b hb e => ?_, fun i u hu => (h2 i u hu).kept hk fun b cur e e' => ?_⟩
  · obtain ⟨c1, e1⟩ := own_obj' h1 hb
    obtain ⟨c2, e2⟩ := own_obj' ho e
    rw [e1] at e2; injection e2 with e2; injection e2 with _ e3 _; exact absurd e3 (by decide)
  · obtain ⟨c2, e2⟩ := own_obj' ho e
    rw [e'] at e2; injection e2 with e2; injection e2 with _ e3 _; exact absurd e3 (by decide)
theorem WordT.next {w w' : World} {B : Nat} {u : Value} {l : List Int} (h : WordT w B u l) (hb : Below w.heap.size w w') : WordT w' B u l := h.kept (F := fun _ => False) hb.kept fun _ _ h => h.elim
theorem WordT.beside {w w' : World} {B B1 : Nat} {u v' : Value} {l : List Int} {n : Nat} {xs : List Value} (h : WordT w B1 u l) (ho : w.ownsRow B 82 2 v' n xs) (hg : w.grownBy w' v'.ownBlock) : WordT w' B1 u l := by
  have hk : Kept (fun b => v'.ownBlock = some b) w w' := (Kept.refl _ _).grown hg fun _ _ e => e
  refine h.kept hk fun b cur e e' => ?_
  obtain ⟨c2, e2⟩ := own_obj' ho e
  rw [e'] at e2; injection e2 with e2; injection e2 with _ e3 _; exact absurd e3 (by decide)
theorem wpList_push_word {w : World} {ops : Array Oper} {rest : List Oper} {o : Oper} {a : Act} {Q : Exit → Act → World → Prop} (hgd : o.guard = none) (s x : Operand)
    (ho : o.op = .call { callee := .builtin .append, args := #[s, x], argTypes := #[27, 27] }) (B : Nat) (v : Value) (W : List (List Int)) (hs : a.eval s = v) (h : OwnT w B v W) (hB : B ≤ w.heap.size)
    {u : Value} {l : List Int} (hu : WordT w B u l) (E : TypeId) (hx : a.eval x = .slice (some ⟨w.heap.size, 0, none⟩) 1 1) (hsm : W.length ≤ 1000)
    {v2 : Value} {n2 : Nat} {xs2 : List Value} (ho2 : w.ownsRow B 82 2 v2 n2 xs2)
    (hK : ∀ v' w', OwnT w' B v' (W ++ [l]) → w'.ownsRow B 82 2 v2 n2 xs2 → Below B w w' → wpList Tryz.prog ops Q rest (a.put o.dst v') w') :
    wpList Tryz.prog ops Q (o :: rest) a (w.alloc (.cells #[u] E)) := by
  obtain ⟨vs, h1, h2⟩ := h
  obtain ⟨i0, hi0, hz0, hz1, hz2⟩ := info_parts Tryz.infoInts
  have hb := below_alloc w (.cells #[u] E)
  have hu1 : u.oneCell' = true := by obtain ⟨a', n', c', rfl, _⟩ := hu; rfl
  refine wpList_append_own_at _ hgd s x _ ho B 23 i0 _ 1 24 Tryz.underlying27 hi0 hz0 hz1 hz2 rfl (by omega) v W.length vs hs (own_grown h1 hb) ⟨w.heap.size, 0, none⟩ 1 1 [u] hx rfl (cell_one_new _ _ _) (by simp [hu1])
    (by unfold maxLen; omega) (by omega) (by simp; omega) fun v' w' k1 k2 _ k4 => ?_
  have hk : Kept (fun b => v.ownBlock = some b) w w' := (hb.kept (F := fun b => v.ownBlock = some b)).grown k2 fun _ _ e => e
  have hF : ∀ b cur, v.ownBlock = some b → w.heap[b]? ≠ some (.cells cur 3 (0, 0)) := fun b cur e e' => by
    obtain ⟨c1, e1⟩ := own_obj' h1 e
    rw [e'] at e1; injection e1 with e1; injection e1 with _ e3 _; exact absurd e3 (by decide)
  have hvl : vs.length = W.length := by have := h1.1; simpa using this
  refine hK v' w' ⟨vs ++ [u], by rw [List.length_append]; exact k1, fun i u' hu' => ?_⟩ ?_ (hk.below hB fun b e => (h1.lt b e).1)
  · by_cases hi : i < vs.length
    · rw [List.getElem?_append_left hi] at hu'
      rw [show (W ++ [l]).getD i [] = W.getD i [] by simp only [List.getD]; rw [List.getElem?_append_left (by omega)]]
      exact (h2 i u' hu').kept hk hF
    · obtain rfl : i = vs.length := by
        rcases Nat.lt_or_ge i (vs.length + 1) with h | h
        · omega
        · rw [List.getElem?_eq_none (by simp; omega)] at hu'; cases hu'
      rw [List.getElem?_append_right (Nat.le_refl _), Nat.sub_self] at hu'
      simp at hu'; subst hu'
      rw [show (W ++ [l]).getD vs.length [] = l by rw [hvl]; simp [List.getD]]
      exact hu.kept hk hF
  · exact ownsRow_kept ho2 hk fun b hb' e => by
      obtain ⟨c1, e1⟩ := own_obj' h1 e
      obtain ⟨c2, e2⟩ := own_obj' ho2 hb'
      rw [e1] at e2; injection e2 with e2; injection e2 with _ e3 _; exact absurd e3 (by decide)
end Go.Proofs.YtebbmhlkdfmmcaaGreat
namespace Go.Proofs.YtebbmhlkdfmmcaaGreat
open Go.RowKit Go.Proofs.Kv

theorem mvR_app (k : Nat) (R : Rl) (l P Q : List Int) : mvR k R l (P ++ Q) = mvR k R l P ++ mvR k R l Q := by rw [mvR, List.filterMap_append]; rfl
theorem mvR_step {k : Nat} {R : Rl} {l : List Int} (h : err2 R l = 0) (i : Nat) : mvR k R l (pl (plB R.f R.le R.ri l) (i + 1)) = if errApply R l i = 0 then mvR k R l (pl (plB R.f R.le R.ri l) i) ++ [(((k : Int), (i : Int)), resApply R l i)] else mvR k R l (pl (plB R.f R.le R.ri l) i) := by
  rw [errApply, resApply, if_pos h, if_pos h, apE, apV]
  cases hp : plB R.f R.le R.ri l (i : Int) with
  | false =>
    rw [pl_miss hp]; simp
  | true =>
    rw [pl_hit hp, mvR_app]
    simp only [if_true]
    by_cases he : putErr R [(i : Int)] l = 0
    · rw [if_pos he]; simp [mvR, he]
    · rw [if_neg he]; simp [mvR, he]
theorem mvR_pl_le (k : Nat) (R : Rl) (l : List Int) (i : Nat) : (mvR k R l (pl (plB R.f R.le R.ri l) i)).length ≤ i := Nat.le_trans (mvR_le _ _ _ _) (pl_le _ _)
set_option maxRecDepth 100000 in
set_option maxHeartbeats 8000000 in
theorem r3steps_calls (A : Option Addr) (N C : Nat) (L : List Rl) (a : Option Addr) (n c : Nat) (l : List Int) (w : World) (h : RulesAt w A N C L) (hI : IntsAt w a n c l) (hL : ∀ R ∈ L, validR R = 0) (hN : N ≤ 6) (hl : validW l = 0) :
    Calls Tryz.prog 91 #[.slice A N C, .slice a n c] w fun e w' => ∃ v1 v2, e = .returned (.tuple #[v1, v2]) ∧ w'.ownsRow w.heap.size 82 2 v1 (movesL L l).length (((movesL L l).map (·.1)).flatMap encN) ∧ OwnT w' w.heap.size v2 ((movesL L l).map (·.2)) ∧ Below w.heap.size w w' := by
  have hn8 : n ≤ 8 := by rw [← hI.len]; exact (validW_ok hl).1
  have HE : Hid (mvTo L l N = movesL L l) := hid_ (by rw [movesL, h.len])
  have HS := hid_ (fun k => mvTo_snoc L l k)
  have HZ : Hid (mvTo L l 0 = []) := hid_ rfl
  have Hle := hid_ (fun k => mvTo_le L (validW_ok hl).1 k)
  have HV : Hid (∀ k, k < N → err2 (L.getD k R0) l = 0) := hid_ (fun k hk => by rw [err2, getD_R0_valid hL (by rw [h.len]; exact hk), if_pos rfl, hl])
  have HPl : Hid (∀ R, pl (plB R.f R.le R.ri l) (n + 1) = plP R l) := hid_ (fun R => by rw [plP, hI.len])
  obtain ⟨i0, hi0, hz0, hz1, hz2⟩ := info_parts Tryz.infoStep
  clear hL hl
  go_enter Tryz.func91, Tryz.ntmps91
  go_wp2
  go_loopw [6, 7, 8] (fun v1 v2 i wr => ∃ k : Nat, k ≤ N ∧ i = .int .i64 k ∧ wr.ownsRow w.heap.size 82 2 v1 (mvTo L l k).length (((mvTo L l k).map (·.1)).flatMap encN) ∧ OwnT wr w.heap.size v2 ((mvTo L l k).map (·.2)) ∧ Below w.heap.size w wr) (fun _ _ i _ => N - (intOf i).toNat)
  case atStart => exact ⟨0, Nat.zero_le _, rfl, by rw [HZ.out]; exact World.ownsRow_nil _ _ _ _, by rw [HZ.out]; exact OwnT.nil _ _, Below.refl _ _⟩
  case round =>
    obtain ⟨k, hk, rfl, hO, hT, hb⟩ := hrel
    by_cases hlt : k < N
    · obtain ⟨b, off, a1, n1, c1, a2, n2, c2, a3, n3, c3, rfl, hbl, j0, j1, j2, j3, hr⟩ := h.at_ hlt
      have hv := HV.out k hlt
      have hs := HS.out k
      have hle0 := Hle.out k
      change w.cell? _ = some (.int .i64 (L.getD k R0).f) at j0
      change RuleAt w (.agg #[.int .i64 (L.getD k R0).f, _, _, _]) (L.getD k R0) at hr
      generalize L.getD k R0 = R at *
      have hst := fun i => mvR_step (k := k) hv i
      have hpl := HPl.out R
      have hz : mvR k R l (pl (plB R.f R.le R.ri l) 0) = [] := rfl
      have hml := fun i => mvR_pl_le k R l i
      have HA := hid_ (fun W (hW : Below w.heap.size w W) (i : Nat) => refApply_calls _ R a n c l i W (hr.below hW (Nat.le_refl _)) (hI.below hW (Nat.le_refl _)))
      generalize hT0 : mvTo L l k = T at *
      have Hst := hid_ hst; have Hz := hid_ hz; have Hml := hid_ hml; have Hle0 := hid_ hle0
      have HO := hid_ hO; have HT := hid_ hT; have Hb := hid_ hb
      have Hfull : Hid (mvTo L l (k + 1) = T ++ mvR k R l (pl (plB R.f R.le R.ri l) (n + 1))) := hid_ (by rw [hs, hpl])
      have HJ := hid_ (fun W (hW : Below w.heap.size w W) => show W.cell? ⟨b, off + k * 4, none⟩ = _ ∧ W.cell? ⟨b, off + k * 4 + 1, none⟩ = _ ∧ W.cell? ⟨b, off + k * 4 + 2, none⟩ = _ ∧ W.cell? ⟨b, off + k * 4 + 3, none⟩ = _ from ⟨cell_below j0 hW, cell_below j1 hW, cell_below j2 hW, cell_below j3 hW⟩)
      clear hst hz hml hle0 hO hT hb hs hpl hv hT0 hr j0 j1 j2 j3
      go_wp2
      go_loopw [6, 7, 9] (fun v1 v2 i wr => ∃ (j : Nat) (M : List Mv), j ≤ n + 1 ∧ i = .int .i64 j ∧ M = T ++ mvR k R l (pl (plB R.f R.le R.ri l) j) ∧ wr.ownsRow w.heap.size 82 2 v1 M.length ((M.map (·.1)).flatMap encN) ∧ OwnT wr w.heap.size v2 (M.map (·.2)) ∧ Below w.heap.size w wr) (fun _ _ i _ => n + 1 - (intOf i).toNat)
      case atStart => exact ⟨0, T, by omega, rfl, by rw [Hz.out, List.append_nil], HO.out, HT.out, Hb.out⟩
      case round =>
        obtain ⟨j, M, hj, rfl, hM, hOi, hTi, hbi⟩ := hrel
        by_cases hlt2 : j ≤ n
        · have hji : (j : Int) ≤ (n : Int) := by omega
          have HA2 := hid_ (HA.out wr hbi j)
          have hst := Hst.out j
          obtain ⟨k0, k1, k2, k3⟩ := HJ.out wr hbi
          have hM1 : M.length ≤ 1000 := by rw [hM, List.length_append]; have := Hml.out j; have := Hle0.out; omega
          have HM1 := hid_ hM1
          have HM2 : Hid (M.length + 1 ≤ 1000000) := hid_ (by omega)
          have HM3 : Hid ((M.map (·.2)).length ≤ 1000) := hid_ (by rw [List.length_map]; exact hM1)
          have HM := hid_ hM
          have HOi := hid_ hOi; have HTi := hid_ hTi; have Hbi := hid_ hbi
          generalize resApply R l (j : Int) = rv at *
          generalize R.f = f at *
          by_cases hae : errApply R l (j : Int) = 0
          · rw [if_pos hae] at hst
            have Hst2 := hid_ hst
            rw [hae] at HA2
            clear hst hae hM hM1 hOi hTi hbi
            go_wp2_with (first
              | (go_at_call 103; (with_reducible refine HA2.out.mono ?_); rintro e w5 ⟨v5, rfl, hm5⟩; have hw5 := hid_ ((Made.wordT hm5).mono Hbi.out.size); have hb5 := hm5.bel; have hB5 := hid_ (Nat.le_trans Hbi.out.size hb5.size); have hO5 := hid_ (own_grown HOi.out hb5); have hT5 := hid_ (HTi.out.next hb5); obtain ⟨a5, c5, rfl, hi5⟩ := hm5.at_)
              | (at_builtin; refine wpList_append_pair w5 rfl (.tmp 36) (.tmp 40) _ rfl w.heap.size 82 i0 Tryz.underlying117 hi0 hz0 hz1 hz2 u6 M.length (M.map (·.1)) rfl hO5.out (k : Int) (j : Int) _ rfl HM2.out hB5.out ?_; intro v6 w6 hO6 hg6; have hc56 := below_alloc w5 (.cells #[.int .i64 (k : Int), .int .i64 (j : Int)] 82); have hT6 := hid_ ((hT5.out.next hc56).beside (own_grown hO5.out hc56) hg6); have hb56 := hid_ (below_app (Below.refl w.heap.size w5) hB5.out hO5.out hg6); have hw6 := hid_ ((hw5.out.next hc56).beside (own_grown hO5.out hc56) hg6); have hO6' := hid_ hO6; have hB6 := hid_ (Nat.le_trans hB5.out hb56.out.size); clear hO6 hg6 hc56)
              | (at_builtin; refine wpList_push_word rfl (.tmp 42) (.tmp 44) rfl w.heap.size u7 (M.map (·.2)) rfl hT6.out hB6.out hw6.out _ rfl HM3.out hO6'.out ?_; intro v7 w7 hT7 hO7 hb7))
            go_roundw
            case rel => exact ⟨j + 1, M ++ [(((k : Int), (j : Int)), rv)], by omega, by go_num, by rw [Hst2.out, HM.out, List.append_assoc], by rw [List.length_append, List.map_append]; exact hO7, by rw [List.map_append]; exact hT7, Hbi.out.trans ((hb5.mono Hbi.out.size).trans (hb56.out.trans hb7))⟩
            case measure => simp [intOf]; omega
          · rw [if_neg hae] at hst
            have Hst2 := hid_ hst
            have hq : (errApply R l (j : Int) == 0) = false := by simpa using hae
            generalize errApply R l (j : Int) = ea at *
            clear hst hae hM hM1 hOi hTi hbi
            go_wp2_with (go_at_call 103; (with_reducible refine HA2.out.mono ?_); rintro e w5 ⟨v5, rfl, hm5⟩)
            go_roundw
            case rel => exact ⟨j + 1, M, by omega, by go_num, by rw [Hst2.out]; exact HM.out, own_grown HOi.out hm5.bel, HTi.out.next hm5.bel, Hbi.out.trans (hm5.bel.mono Hbi.out.size)⟩
            case measure => simp [intOf]; omega
        · obtain rfl : j = n + 1 := by omega
          have hni : ¬ ((n + 1 : Nat) : Int) ≤ (n : Int) := by omega
          have hM' : M = mvTo L l (k + 1) := by rw [hM, Hfull.out]
          subst hM'
          have HO2 := hid_ hOi; have HT2 := hid_ hTi
          clear hM hOi hTi
          go_wp2
          go_roundw
          case rel => exact ⟨k + 1, by omega, by go_num, HO2.out, HT2.out, hbi⟩
          case measure => simp [intOf]; omega
    · obtain rfl : N = k := by omega
      rw [HE.out] at hO hT
      have HO := hid_ hO; have HT := hid_ hT
      clear hO hT
      go_wp2
      go_ret2
      exact ⟨_, _, rfl, HO.out, HT.out, hb⟩
end Go.Proofs.YtebbmhlkdfmmcaaGreat
namespace Go.Proofs.YtebbmhlkdfmmcaaGreat
open Go.RowKit Go.Proofs.Kv

/-! ### Steps, IsEnd: the document -/
theorem pairs_any {E : TypeId} {w w' : World} {v : Value} {l : List (Int × Int)} (h : MadeP E w w' v l) : ∃ a c, v = .slice a l.length c ∧ PairsAt w' a l.length c l := h.at_
end Go.Proofs.YtebbmhlkdfmmcaaGreat
