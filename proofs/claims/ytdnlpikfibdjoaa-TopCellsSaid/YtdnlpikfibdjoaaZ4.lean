import Derived.Test.YtdnlpikfibdjoaaZ1
import Derived.OwnWalkIn
namespace Go.Proofs.Kv
open Go.RowKit Go

/-- the row of a list of lists that the call owns, whose rows all lie from the base on -/
structure OwnB (E : TypeId) (w : World) (B : Nat) (v : Value) (L : List (List Int)) : Prop where
  has : ∃ vs, w.ownsRow B E 1 v L.length vs ∧ ∀ i, i < L.length → ∃ a n c, vs[i]? = some (.slice a n c) ∧ IntsAt w a n c (L.getD i []) ∧ ∀ b off, 0 < n → a = some ⟨b, off, none⟩ → v.ownBlock ≠ some b ∧ B ≤ b
theorem OwnB.toL {E : TypeId} {w : World} {B : Nat} {v : Value} {L : List (List Int)} (h : OwnB E w B v L) : OwnL E w B v L := by
  obtain ⟨vs, h1, h2⟩ := h.has
  exact ⟨vs, h1, fun i hi => by obtain ⟨a, n, c, e, hr, hd⟩ := h2 i hi; exact ⟨a, n, c, e, hr, fun b off hn ha => (hd b off hn ha).1⟩⟩
theorem OwnB.nil (E : TypeId) (w : World) (B : Nat) : OwnB E w B (.slice none 0 0) [] := ⟨[], World.ownsRow_nil _ _ _ _, fun i h => absurd h (by simp)⟩
theorem OwnB.below {E : TypeId} {w w' : World} {B B' : Nat} {v : Value} {L : List (List Int)} (h : OwnB E w B v L) (hb : Below B' w w') (hB : w.heap.size ≤ B') : OwnB E w' B v L := by
  obtain ⟨vs, h1, h2⟩ := h.has
  refine ⟨vs, own_below h1 hb hB, fun i hi => ?_⟩
  obtain ⟨a, n, c, e, hr, hd⟩ := h2 i hi
  exact ⟨a, n, c, e, hr.below hb hB, hd⟩
theorem OwnB.alloc {E : TypeId} {w : World} {B : Nat} {v : Value} {L : List (List Int)} (h : OwnB E w B v L) (o : Obj) : OwnB E (w.alloc o) B v L :=
  h.below ((Below.refl w.heap.size w).alloc (Nat.le_refl _) o) (Nat.le_refl _)
theorem OwnB.lt {E : TypeId} {w : World} {B : Nat} {v : Value} {L : List (List Int)} (h : OwnB E w B v L) : ∀ k, v.ownBlock = some k → B ≤ k ∧ k < w.heap.size := by
  obtain ⟨vs, h1, _⟩ := h.has
  exact h1.lt
/-- what turns under it: blocks that are not the row nor one of its rows -/
theorem OwnB.kept {E : TypeId} {w w' : World} {B : Nat} {v : Value} {L : List (List Int)} {row : Option Nat} (h : OwnB E w B v L) (hg : w.grownBy w' row) (hr : ∀ r, row = some r → r < B ∨ ∃ o : Obj, w.heap[r]? = some o ∧ o.isCells = false) : OwnB E w' B v L := by
  obtain ⟨vs, h1, h2⟩ := h.has
  refine ⟨vs, World.ownsRow.kept h1 hg ?_, fun i hi => ?_⟩
  · by_cases hv : v.ownBlock = none
    · exact .inl hv
    · refine .inr fun e => ?_
      obtain ⟨r, hr'⟩ := Option.ne_none_iff_exists'.1 hv
      rw [hr'] at e
      rcases hr r e.symm with h3 | ⟨o, ho, hc⟩
      · have := (h1.lt r hr').1; omega
      · rcases h1.2 with ⟨rfl, _⟩ | ⟨g, cap, cur, rfl, _, hg', _⟩
        · simp [Value.ownBlock] at hr'
        · have : g = r := by simpa [Value.ownBlock] using hr'
          subst this
          rw [hg'] at ho
          injection ho with ho
          subst ho
          simp [Obj.isCells] at hc
  · obtain ⟨a, n, c, e, hI, hd⟩ := h2 i hi
    refine ⟨a, n, c, e, ⟨hI.len, hI.le, hI.small, fun j hj => ?_⟩, hd⟩
    obtain ⟨b, off, ha, hb, hc⟩ := hI.cells j hj
    have hne : row ≠ some b := fun e => by
      rcases hr b e with h3 | ⟨o, ho, hc'⟩
      · have := (hd b off (by omega) ha).2; omega
      · unfold World.cell? at hc
        rw [ho] at hc
        cases o <;> simp_all [Obj.isCells]
    exact ⟨b, off, ha, Nat.lt_of_lt_of_le hb hg.size, hg.cell (a := ⟨b, off + j, none⟩) hc (fun e => hne e.symm)⟩
theorem own_apart {w : World} {B B' E E' s s' n n' : Nat} {v v' : Value} {xs xs' : List Value} (h : w.ownsRow B E s v n xs) (h' : w.ownsRow B' E' s' v' n' xs') (hE : E ≠ E') : ∀ b, v.ownBlock = some b → v'.ownBlock ≠ some b := by
  intro b hb hb'
  rcases h.2 with ⟨rfl, _⟩ | ⟨g, cap, cur, rfl, _, hg, _⟩
  · simp [Value.ownBlock] at hb
  · rcases h'.2 with ⟨rfl, _⟩ | ⟨g', cap', cur', rfl, _, hg', _⟩
    · simp [Value.ownBlock] at hb'
    · have e1 : g = b := by simpa [Value.ownBlock] using hb
      have e2 : g' = b := by simpa [Value.ownBlock] using hb'
      subst e1; subst e2
      rw [hg] at hg'
      injection hg' with hg'
      injection hg' with _ q _
      exact hE q
section
variable {P : Program} (w : World)
theorem run_push_B (base : Nat) (t ty e : TypeId) (i : TypeInfo) (ht : P.underlying t = some (.slice e)) (hi : P.info? e = some i) (hz : i.zero = some (.slice none 0 0))
    (hsize : i.size = 1) (hby : i.bytes = 24) (v : Value) (L : List (List Int)) (hown : OwnB e w base v L)
    (g : Nat) (A : Option Addr) (m c : Nat) (l : List Int) (hx : w.cell? ⟨g, 0, none⟩ = some (.slice A m c)) (hr : IntsAt w A m c l) (hin : ∀ b off, 0 < m → A = some ⟨b, off, none⟩ → v.ownBlock ≠ some b ∧ base ≤ b)
    (hs : L.length + 1 ≤ 1000000) (hbase : base ≤ w.heap.size) :
    ∃ v' w', (Builtin.append_ #[t, t] ty #[v, .slice (some ⟨g, 0, none⟩) 1 1]).run P w = .ok v' w' ∧ OwnB e w' base v' (L ++ [l]) ∧ w.grownBy w' v.ownBlock ∧ (v'.ownBlock = v.ownBlock ∨ v'.ownBlock = some w.heap.size) := by
  obtain ⟨vs, h1, h2⟩ := hown.has
  obtain ⟨v', w', k1, k2, k3, _, k5⟩ := run_append_own_at (P := P) w base t ty e i (.slice none 0 0) 1 24 ht hi hz hsize hby rfl (by omega) v _ _ h1 ⟨g, 0, none⟩ 1 1 [.slice A m c] (by simp) (fun j u hu => by
      have hj : j = 0 := by
        rcases Nat.lt_or_ge j 1 with h | h
        · omega
        · rw [List.getElem?_eq_none (by simpa using h)] at hu; cases hu
      subst hj
      simp at hu
      subst hu
      exact hx) (fun u hu => by
        rw [List.mem_singleton] at hu; subst hu; rfl) (by unfold maxLen; omega) (by omega) hbase
  refine ⟨v', w', k1, ⟨vs ++ [.slice A m c], by rw [List.length_append]; exact k2, fun i hi => ?_⟩, k3, k5⟩
  have hvl : vs.length = L.length := by have := h1.1; omega
  have key : ∀ a n c l, IntsAt w a n c l → (∀ b off, 0 < n → a = some ⟨b, off, none⟩ → v.ownBlock ≠ some b ∧ base ≤ b) → IntsAt w' a n c l ∧ ∀ b off, 0 < n → a = some ⟨b, off, none⟩ → v'.ownBlock ≠ some b ∧ base ≤ b := by
    intro a n c l hI hd
    have hblk : ∀ b off, 0 < n → a = some ⟨b, off, none⟩ → b < w.heap.size := by
      intro b off hn ha
      obtain ⟨b', off', ha', hb, _⟩ := hI.cells 0 hn
      rw [ha] at ha'; injection ha' with ha'; injection ha' with e1 e2; omega
    refine ⟨⟨hI.len, hI.le, hI.small, fun i hi => ?_⟩, fun b off hn ha => ⟨?_, (hd b off hn ha).2⟩⟩
    · obtain ⟨b, off, ha, hb, hc⟩ := hI.cells i hi
      exact ⟨b, off, ha, Nat.lt_of_lt_of_le hb k3.size, k3.cell (a := ⟨b, off + i, none⟩) hc (fun e => (hd b off (by omega) ha).1 e.symm)⟩
    · rcases k5 with e | e
      · rw [e]; exact (hd b off hn ha).1
      · rw [e]; intro h; injection h with h; have := hblk b off hn ha; omega
  rw [List.length_append, List.length_singleton] at hi
  rw [getD_app]
  by_cases hil : i < L.length
  · rw [if_pos hil]
    obtain ⟨a, n, c, e, hI, hd⟩ := h2 i hil
    obtain ⟨q1, q2⟩ := key a n c _ hI hd
    exact ⟨a, n, c, by rw [List.getElem?_append_left (by omega)]; exact e, q1, q2⟩
  · rw [if_neg hil]
    obtain rfl : i = L.length := by omega
    obtain ⟨q1, q2⟩ := key A m c _ hr hin
    exact ⟨A, m, c, by rw [List.getElem?_append_right (by omega), hvl, Nat.sub_self]; rfl, by rw [Nat.sub_self]; exact q1, q2⟩
/-- append of one slice that lies in a block of one cell, inside a fence -/
theorem wpListIn_push_B {F : Fence} {N : Nat} {ops : Array Oper} {rest : List Oper} {o : Oper} {a : Act} {Q : Exit → Act → World → Prop} (hgd : o.guard = none) (s x : Operand) (t : TypeId)
    (ho : o.op = .call { callee := .builtin .append, args := #[s, x], argTypes := #[t, t] })
    (base : Nat) (e : TypeId) (i : TypeInfo) (ht : P.underlying t = some (.slice e)) (hi : P.info? e = some i) (hz : i.zero = some (.slice none 0 0)) (hsize : i.size = 1) (hby : i.bytes = 24)
    (v : Value) (L : List (List Int)) (hs : a.eval s = v) (hown : OwnB e w base v L)
    (g : Nat) (A : Option Addr) (m c : Nat) (l : List Int) (hx : a.eval x = .slice (some ⟨g, 0, none⟩) 1 1) (hc : w.cell? ⟨g, 0, none⟩ = some (.slice A m c)) (hr : IntsAt w A m c l) (hin : ∀ b off, 0 < m → A = some ⟨b, off, none⟩ → v.ownBlock ≠ some b ∧ base ≤ b)
    (hsm : L.length + 1 ≤ 1000000) (hbase : base ≤ w.heap.size)
    (h : ∀ v' w', OwnB e w' base v' (L ++ [l]) → w.grownBy w' v.ownBlock → wpListIn F N P ops Q rest (a.put o.dst v') w') :
    wpListIn F N P ops Q (o :: rest) a w := by
  refine wpListIn_plain hgd fun K hK' => ?_
  obtain ⟨v', w', hrun, r1, r2, r3⟩ := run_push_B (P := P) w base t o.type e i ht hi hz hsize hby v L hown g A m c l hc hr hin hsm hbase
  unfold Oper.wpIn
  refine ⟨?_, ?_⟩
  · simp [Oper.about, ho, resolve, Target.leads, Sem.run_pure]
  · rw [Oper.semAt_plain F _ _ (by rw [ho]; intro c hc'; cases hc')]
    simp [execOp, ho, resolve, invoke, builtin, hs, hx, hrun, Result.andThen]
    exact hK' _ _ (h v' w' r1 r2)
end
theorem stays_ownB {D : Nat} {E : TypeId} {v : Value} {L : List (List Int)} : Stays (D + 2) fun W => OwnB E W (D + 3) v L := fun A A' row h hg hr =>
  h.kept hg fun r e => by
    rcases (hr r e).2 with h2 | h2
    · exact .inl (by omega)
    · exact .inr h2
end Go.Proofs.Kv
namespace Go.Proofs.Ytdnlpikfibdjoaa
open Go.RowKit Go.Proofs.Kv Go
attribute [local go_sem] Oper.semAt_some

/-! ### the cells, collected -/
theorem grownBy_setCell_ (w : World) (p : Addr) (v : Value) : w.grownBy (w.setCell p v) (some p.block) := ⟨rfl, rfl, rfl, by simp [World.setCell], fun k hk hne => Below.heap_setCell w p v k (fun e => hne (by rw [e]))⟩
theorem keeps_grownB {w w' : World} {B E : Nat} {v : Value} {L : List (List Int)} (hown : OwnB E w B v L) (hg : w.grownBy w' v.ownBlock) : KeepsOthers w w' := by
  obtain ⟨vs, h1, _⟩ := hown.has
  exact keeps_grown h1 hg
set_option maxRecDepth 100000 in
set_option maxHeartbeats 1000000 in
theorem appendSeq_calls (P : Par) (sa : Option Addr) (n cs Bn : Nat) (w : World) (hb : w.cell? ⟨Bn, 0, none⟩ = some (.slice sa n cs)) (hs : IntsAt w sa n cs P.sizes) (hv : validP P = 0) :
    Calls Try.prog 117 #[.slice none 0 0, .func (.func 118) #[] #[.pointer (some ⟨Bn, 0, none⟩)]] w fun e w' => ∃ v', e = .returned v' ∧ MadeL 22 w w' v' (cellsL P.sizes) := by
  obtain ⟨i0, hi0, hz0, hz1, hz2⟩ := info_parts Try.infoInts
  have hn : P.sizes.length = n := hs.len
  have Hit := hid_ (cells_iter P sa n cs Bn hv hn 8)
  have h27 := (cells_chain hv).2.2.1
  have Hn := hid_ hn
  have hbw : Bn < w.heap.size := World.block_lt_of_cell? w _ hb
  obtain ⟨w3, hw3⟩ : ∃ w3, w.alloc (.cells #[.slice none 0 0] 43) = w3 := ⟨_, rfl⟩
  have b3 : Below w.heap.size w w3 := by rw [← hw3]; exact below_alloc _ _
  have z3 : w3.heap.size = w.heap.size + 1 := by rw [← hw3]; simp
  have Hf3 : Hid (CF ⟨w.heap.size, 0, none⟩ (.slice none 0 0) w3) := hid_ (by rw [← hw3]; exact ⟨cells_alloc _ _ _ 0, World.frozen?_alloc_at _ _ _ _ (by simp)⟩)
  have Hb3 := hid_ b3
  have HG := hid_ (fun W (hW : Below w.heap.size w W) => And.intro (cell_below hb hW) (hs.below hW (Nat.le_refl _)))
  clear hn hv hb hs b3
  refine (callsIn_wide (n := 9)).1 ?_
  refine callsIn_of_wp_marks Try.func117 rfl trivial ?_ rfl
  simp only [Try.ntmps117, List.size_toArray, List.length_cons, List.length_nil, Nat.reduceAdd, Nat.reduceSub, Array.replicate_succ, Array.replicate_zero, List.push_toArray, List.append_toArray, List.nil_append, List.cons_append]
  gi_wp2
  refine wpIn_rangeFunc_new (n := 9) rfl (by omega) (gf := 118) (lb := #[.pointer (some ⟨Bn, 0, none⟩)]) rfl trivial (enters_of Try.func118 (by kernel_rfl) rfl) Hit.out rfl
    ?hC
    (fun k W => Below w.heap.size w W ∧ ∃ v, CF ⟨w.heap.size, 0, none⟩ v W ∧ OwnB 22 W (w3.heap.size + 3) v ((cellsL P.sizes).take k))
    (fun _ _ _ => False)
    ?hIG ?hI ?hIx ⟨Hb3.out, _, Hf3.out, OwnB.nil _ _ _⟩
    (fun v => { tmps := #[.slice none 0 0, .func (.func 118) #[] #[.pointer (some ⟨Bn, 0, none⟩)], .pointer (some ⟨w.heap.size, 0, none⟩), undef, .slice none 0 0, v, .func (.func 118) #[] #[.pointer (some ⟨Bn, 0, none⟩)], v, undef, undef, undef, undef, undef], defers := [] })
    ?hassign ?hbody (fun k A v h => h.1) ?hdone ?hstop
  case hC => exact fun k A v h l o o' hl ho => ⟨by have := h.1; simpa using this, (StaysN.own (B := 0)).put o' h.2 hl ho (Nat.zero_le _)⟩
  case hIG => exact fun k A hA => HG.out A hA.1
  case hI => exact fun k => stays_and (stays_below (by omega) (Nat.le_refl _)) (stays_ex fun v => stays_and (stays_cf (by show w.heap.size < _; omega)) stays_ownB)
  case hIx => exact fun c k A A' row h => h.elim
  case hstop => exact fun D c k W hD hk h => h.elim
  case hassign =>
    intro l v W K hK
    gi_wp2
    exact hK
  case hbody =>
    rintro l k v W ⟨hb, fv, ⟨f0, f1⟩, hown⟩ hkN ⟨hBs, hov⟩ hBW
    rw [Hn.out] at hov
    have hap : ∀ b, fv.ownBlock = some b → v.ownBlock ≠ some b := by
      obtain ⟨vs, h1, _⟩ := hown.has
      exact own_apart h1 hov (by decide)
    have hlt := hov.lt
    obtain ⟨av, cv, rfl, hiv⟩ := IntsAt.own hov
    have Hs : Hid ((cellsL P.sizes).take (k + 1) = (cellsL P.sizes).take k ++ [(cellsL P.sizes).getD k []]) := hid_ (take_snoc _ [] k hkN)
    obtain ⟨L6, hL6⟩ : ∃ L6, (cellsL P.sizes).take k ++ [(cellsL P.sizes).getD k []] = L6 := ⟨_, rfl⟩
    have HL6 := hid_ hL6
    clear hL6
    have hle : ((cellsL P.sizes).take k).length + 1 ≤ 1000000 := by rw [List.length_take]; omega
    have hin : ∀ b off, 0 < n → av = some ⟨b, off, none⟩ → fv.ownBlock ≠ some b ∧ w3.heap.size + 3 ≤ b := fun b off h0 ha => by
      obtain ⟨b', off', ha', -, -⟩ := hiv.cells 0 h0
      subst ha
      have e : off = 0 := by
        rcases hov.2 with ⟨h1, h2⟩ | ⟨g, cap, cur, h1, _⟩
        · injection h1 with h1; cases h1
        · injection h1 with h1 _ _; injection h1 with h1; injection h1 with _ h1
      subst e
      exact ⟨fun e => hap b e rfl, (hlt b rfl).1⟩
    have Hiv := hid_ (hiv.below (below_alloc W (.cells #[.slice av n cv] 22)) (Nat.le_refl _))
    have hcw : (W.alloc (.cells #[.slice av n cv] 22)).cell? ⟨W.heap.size, 0, none⟩ = some (.slice av n cv) := cells_alloc _ _ _ 0
    have Hown := hid_ (hown.alloc (.cells #[.slice av n cv] 22))
    have hWz : w3.heap.size + 3 ≤ (W.alloc (.cells #[.slice av n cv] 22)).heap.size := by simp; omega
    have hne : ∀ b, fv.ownBlock = some b → w3.heap.size + 3 ≤ b := fun b e => (hown.lt b e).1
    clear hov hiv hown
    gi_wp2_with (gi_at_builtin; refine wpListIn_push_B _ rfl (.tmp 8) (.tmp 10) 43 rfl (w3.heap.size + 3) 22 i0 Try.underlying43 hi0 hz0 hz1 hz2 fv _ rfl Hown.out W.heap.size av n cv _ rfl hcw Hiv.out hin hle hWz ?_; intro v6 w6 hown6 hg6; rw [HL6.out] at hown6; obtain ⟨av6, cv6, rfl, -⟩ := hown6.toL.at_; have hB6 : Below (w3.heap.size + 3) W w6 := Below.grown ((below_alloc W (.cells #[.slice av n cv] 22)).mono (by omega)) hg6 (by simp; omega) (fun r e => hne r e); have c6 : w6.cell? ⟨w.heap.size, 0, none⟩ = some fv := (hB6.cell (p := ⟨w.heap.size, 0, none⟩) (by show w.heap.size < _; omega)).trans f0; have c7 : w6.frozen? ⟨w.heap.size, 0, none⟩ = false := (hB6.frozen (p := ⟨w.heap.size, 0, none⟩) (by show w.heap.size < _; omega)).trans f1)
    have hko : KeepsOthers W w6 := (keeps_below (below_alloc W (.cells #[.slice av n cv] 22))).trans (keeps_grownB Hown.out hg6)
    refine ⟨hko.trans (KeepsOthers.setCell _ _ _), (Below.heap_setCell w6 ⟨w.heap.size, 0, none⟩ _ (w3.heap.size + 2) (by show w3.heap.size + 2 ≠ w.heap.size; omega)).trans (hB6.block _ (by omega)), ?_, _, ⟨World.cell?_setCell_same _ _ _ c6, by rw [World.frozen?_setCell]; exact c7⟩, ?_⟩
    · exact (hb.trans (hB6.mono (by omega))).setCell (p := ⟨w.heap.size, 0, none⟩) (Nat.le_refl _) _
    · rw [Hs.out, HL6.out]
      exact hown6.kept (grownBy_setCell_ w6 _ _) fun r e => by cases e; exact .inl (by show w.heap.size < w3.heap.size + 3; omega)
  case hdone =>
    rintro D W hD ⟨hb, fv, ⟨f0, f1⟩, hown⟩ hK
    rw [List.take_length] at hown
    obtain ⟨af, cf, rfl, -⟩ := hown.toL.at_
    have Hown := hid_ hown
    have HK := hid_ hK
    have Hb := hid_ hb
    clear hown hK hb
    gi_wp2
    have hDr : ∀ r, some D = some r → ∃ o : Obj, W.heap[r]? = some o ∧ o.isCells = false := fun r e => by cases e; exact ⟨_, HK.out, rfl⟩
    have hb2 : Below w.heap.size w (W.putObj D (.deferred none)) := Hb.out.grown (grownBy_putObj' W D (.deferred none)) Hb.out.size fun r e => by cases e; omega
    have hp1 := Hown.out.kept (grownBy_putObj' W D (.deferred none)) fun r e => .inr (hDr r e)
    refine ⟨by simp, .inl ⟨_, _, rfl, run_takeDeferred HK.out, ?_⟩⟩
    refine ⟨.slice af (cellsL P.sizes).length cf, by simp [results, Try.results117, go_sem], ?_⟩
    exact ⟨_, rfl, ⟨hp1.toL.base (by omega), hb2⟩⟩
set_option maxRecDepth 100000 in
theorem collect_calls (P : Par) (sa : Option Addr) (n cs Bn : Nat) (w : World) (hb : w.cell? ⟨Bn, 0, none⟩ = some (.slice sa n cs)) (hs : IntsAt w sa n cs P.sizes) (hv : validP P = 0) :
    Calls Try.prog 74 #[.func (.func 118) #[] #[.pointer (some ⟨Bn, 0, none⟩)]] w fun e w' => ∃ v', e = .returned v' ∧ MadeL 22 w w' v' (cellsL P.sizes) := by
  have HA := hid_ (appendSeq_calls P sa n cs Bn w hb hs hv)
  clear hb hs
  go_enter Try.func74, Try.ntmps74
  go_wp2_with (go_at_call 117; (with_reducible refine HA.out.mono ?_); rintro e w2 ⟨v2, rfl, hm⟩)
  go_ret
  exact ⟨_, rfl, hm⟩
end Go.Proofs.Ytdnlpikfibdjoaa
