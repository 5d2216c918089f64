import Derived.Test.YtoopgmoopmbfnaaKitD
import Derived.Test.YtoopgmoopmbfnaaRefL
import Derived.Deep.RegionHeld3
import Derived.Deep.RegionLawGrows
import Derived.Laws.EntriesVeiled
namespace Go.Proofs.Ytoopgmoopmbfnaa
open Go.RowKit Go.Proofs.Kv Go.Proofs.Snd

/-- append of a slice onto an own row, as one step of a region that draws its order -/
theorem step_append_row {ops : Array Oper} {o : Oper} {a : Act} {w : World} {K : Act → World → Prop} {Q : Exit → Act → World → Prop} {E : Prop} (hg : o.guard = none) (s x : Operand)
    (ho : o.op = .call { callee := .builtin .append, args := #[s, x], argTypes := #[23, 23] }) (base : Nat) (v : Value) (n : Nat) (xs : List Int) (hs : a.eval s = v) (hown : w.ownsRow base 3 1 v n (xs.map (Value.int .i64)))
    (A : Option Addr) (m c : Nat) (ys : List Int) (hx : a.eval x = .slice A m c) (hr : IntsAt w A m c ys) (hsm : n + m ≤ 1000000) (hbase : base ≤ w.heap.size)
    (hK : ∀ v' w', w'.ownsRow base 3 1 v' (n + m) ((xs ++ ys).map (Value.int .i64)) → w.grownBy w' v.ownBlock → (v'.ownBlock = v.ownBlock ∨ v'.ownBlock = some w.heap.size) → K (a.put o.dst v') w') :
    if Region.wanted o (yielded ops a.tmps) = true then Oper.wp Try.prog o a w K Q else E := by
  obtain ⟨i0, hi0, hz0, hz1, hz2⟩ := info_parts Try.infoInt
  have hw : Region.wanted o (yielded ops a.tmps) = true := by simp [Region.wanted, hg]
  rw [if_pos hw]
  obtain ⟨v', w', hrun, h2, h3, h4⟩ := run_append_ints (P := Try.prog) w base 23 o.type 3 i0 Try.underlying23 hi0 hz0 hz1 hz2 v n xs hown A m c ys hr hsm hbase
  unfold Oper.wp
  simp [execOp, ho, resolve, invoke, builtin, hs, hx, hrun, Result.andThen]
  exact hK _ _ h2 h3 h4

/-! ### the document's Join -/
theorem within_as {n lo hi : Int} {w : World} {b : Bool} (h : Within n lo hi = b) :
    Calls Try.prog 72 #[.int .i64 n, .int .i64 lo, .int .i64 hi] w fun e w' => e = .returned (.bool b) ∧ w = w' := by subst h; exact within_calls n lo hi w
def jn (L : List (List Int)) (r k : Nat) : List (List Int) := if k ≤ r + 1 then L.take k else L.take r ++ ((L.getD r [] ++ L.getD (r + 1) []) :: (L.drop (r + 2)).take (k - (r + 2)))
theorem jn_push {L : List (List Int)} {r k : Nat} (hk : k < L.length) (h : k ≠ r + 1) : jn L r (k + 1) = jn L r k ++ [L.getD k []] := by
  unfold jn
  by_cases h1 : k ≤ r
  · rw [if_pos (by omega), if_pos (by omega), Kv.take_snoc L [] k hk]
  · rw [if_neg (by omega), if_neg (by omega), show k + 1 - (r + 2) = k - (r + 2) + 1 by omega, Kv.take_snoc (L.drop (r + 2)) [] (k - (r + 2)) (by rw [List.length_drop]; omega)]
    have : (L.drop (r + 2)).getD (k - (r + 2)) [] = L.getD k [] := by
      simp only [List.getD, List.getElem?_drop]; rw [show r + 2 + (k - (r + 2)) = k by omega]
    rw [this]; simp
theorem jn_join (L : List (List Int)) (r : Nat) : jn L r (r + 2) = L.take r ++ [L.getD r [] ++ L.getD (r + 1) []] := by
  unfold jn; rw [if_neg (by omega), Nat.sub_self, List.take_zero]
theorem jn_all {L : List (List Int)} {r : Nat} (h : r + 1 < L.length) : jn L r L.length = joinL L r := by
  unfold jn joinL
  rw [if_neg (by omega), List.take_of_length_le (l := L.drop (r + 2)) (by rw [List.length_drop]; omega)]
theorem jn_len (L : List (List Int)) (r k : Nat) : (jn L r k).length ≤ k + 1 := by
  unfold jn
  split
  · rw [List.length_take]; omega
  · rw [List.length_append, List.length_cons, List.length_take, List.length_take]; omega
theorem jn_zero (L : List (List Int)) (r : Nat) : jn L r 0 = [] := by unfold jn; rw [if_pos (by omega)]; rfl
theorem jn_pre {L : List (List Int)} {r : Nat} (h : r < L.length) : jn L r (r + 1) = L.take r ++ [L.getD r []] := by unfold jn; rw [if_pos (by omega), Kv.take_snoc L [] r h]
/-- what the document's Join holds behind k rows -/
def JAt (B : Nat) (w : World) (v : Value) (L : List (List Int)) (r k : Nat) : Prop :=
  (k ≠ r + 1 → OwnL 23 w B v (jn L r k)) ∧ (k = r + 1 → ∃ g, OwnR 23 3 w B v (L.take r) g (L.getD r []))
theorem joinErr_ok {L : List (List Int)} {r : Int} (h : joinErr L r = 0) : validT L = 0 ∧ ∃ k : Nat, r = k ∧ k + 1 < L.length := by
  unfold joinErr at h
  by_cases he : validT L = 0
  · rw [if_pos he] at h
    by_cases hr : r < 0 ∨ (L.length : Int) - 1 ≤ r
    · rw [if_pos hr] at h; cases h
    · exact ⟨he, r.toNat, by omega, by omega⟩
  · rw [if_neg he] at h; exact absurd h he
set_option maxRecDepth 100000 in
theorem refJoin_calls (a : Option Addr) (n c : Nat) (L : List (List Int)) (r : Int) (w : World) (h : ListsAt w a n c L) (hs : L.flatten.length ≤ 100000) :
    Calls Try.prog 27 #[.slice a n c, .int .i64 r] w fun e w' => ∃ v, e = .returned (.tuple #[v, .int .i64 (joinErr L r)]) ∧ MadeL 23 w w' v (joinRes L r) := by
  have hval := refValidate_calls a n c L w h hs
  have hlen := h.len
  by_cases he : validT L = 0
  · rw [he] at hval
    have Hv := hid_ hval; clear hval
    have hg := good_of he
    have hn6 : n ≤ 6 := by have := hg.n6; omega
    have hn1 : 1 ≤ n := by have := hg.n1; omega
    by_cases hr : Within r 0 ((n : Int) - 2) = true
    · have hr' : 0 ≤ r ∧ r ≤ (n : Int) - 2 := by simpa [Within] using hr
      obtain ⟨r', rfl⟩ := Int.eq_ofNat_of_zero_le hr'.1
      have hrl : r' + 1 < L.length := by omega
      have He : Hid (joinErr L r' = 0) := hid_ (by rw [joinErr, if_pos he, if_neg (by omega)])
      have Hf : Hid (joinRes L r' = jn L r' n) := hid_ (by rw [joinRes, He.out, ← hlen, jn_all hrl]; rfl)
      have HL := hid_ (fun W (hW : Below w.heap.size w W) => h.below hW (Nat.le_refl _))
      have hrw : IntKind.i64.wrap ((r' : Int) + 1) = r' + 1 := IntWalk.i64_in _ (by omega)
      have Hr := hid_ hr
      have Hlen := hid_ hlen
      have Hne := hid_ hg.ne
      have Hrow := hid_ hg.row
      have hrn : r' + 1 < n := by omega
      clear he hg h hr hr' hlen hrl
      obtain ⟨i0, hi0, hz0, hz1, hz2⟩ := info_parts Try.infoInt
      obtain ⟨i1, hi1, hz0', hz1', hz2'⟩ := info_parts Try.infoInts
      go_enter Try.func27, Try.ntmps27
      go_wp2_with fail
      refine Hv.out.mono ?_
      rintro e w1 ⟨rfl, hb1⟩
      go_wp2_with (go_at_call 72; refine (within_as Hr.out).mono ?_; rintro e w' ⟨rfl, rfl⟩)
      go_loopw [7, 8] (fun v i wr => ∃ k : Nat, k ≤ n ∧ i = .int .i64 k ∧ JAt w.heap.size wr v L r' k ∧ Below w.heap.size w wr) (fun _ i _ => n - (intOf i).toNat)
      case atStart => exact ⟨0, Nat.zero_le _, rfl, ⟨fun _ => by rw [jn_zero]; exact OwnL.nil _ _ _, fun h => absurd h (by omega)⟩, hb1⟩
      case round =>
        obtain ⟨k, hk, rfl, hJ, hbel⟩ := hrel
        have hsz := hbel.size
        by_cases hlt : k < n
        · obtain ⟨b, off, a1, n1, c1, rfl, hb, hcell, hrow⟩ := (HL.out wr hbel).cells k hlt
          have hkl : k < L.length := by rw [Hlen.out]; exact hlt
          have hmem : L.getD k [] ∈ L := by rw [List.getD, List.getElem?_eq_getElem hkl, Option.getD_some]; exact List.getElem_mem _
          have hpos : 0 < n1 := by rw [← hrow.len]; exact List.length_pos_iff.2 (Hne.out _ hmem)
          have hle : n1 ≤ 6 := by rw [← hrow.len]; exact Hrow.out _ hmem
          by_cases hkr : k = r' + 1
          · subst hkr
            obtain ⟨g, vs, m, cm, o1, o2, o3, o4, o5⟩ := hJ.2 rfl
            have htl : (L.take r').length = r' := by rw [List.length_take]; omega
            rw [htl] at o1
            obtain ⟨gv, cv, rfl, p1, p2, p3, p4⟩ := own_form o1 (by omega)
            have hgv : gv ≠ g := by simpa [Value.ownBlock] using o5
            have hc1 : wr.cell? ⟨gv, r', none⟩ = some (.slice (some ⟨g, 0, none⟩) m cm) := by
              rw [o1.cellAt r' (by omega), List.getElem?_append_right (by omega), o2, htl, Nat.sub_self]; rfl
            have hf1 : wr.frozen? ⟨gv, r', none⟩ = false := o1.frozenAt r'
            have hml : (L.getD r' []).length = m := by simpa using o4.1
            have hm6 : m ≤ 6 := by rw [← hml]; exact Hrow.out _ (by rw [List.getD, List.getElem?_eq_getElem (by omega), Option.getD_some]; exact List.getElem_mem _)
            have hg0 : wr.grownBy wr.drew (some g) := ⟨rfl, rfl, rfl, Nat.le_refl _, fun _ _ _ => rfl⟩
            have hnew : ∀ v' w1, w1.ownsRow w.heap.size 3 1 v' (m + n1) ((L.getD r' [] ++ L.getD (r' + 1) []).map (Value.int .i64)) → wr.drew.grownBy w1 (some g) → (v'.ownBlock = some g ∨ v'.ownBlock = some wr.heap.size) →
                (w1.cell? ⟨gv, r', none⟩ = some (.slice (some ⟨g, 0, none⟩) m cm) ∧ w1.frozen? ⟨gv, r', none⟩ = false) ∧ OwnL 23 (w1.setCell ⟨gv, r', none⟩ v') w.heap.size (.slice (some ⟨gv, 0, none⟩) (r' + 1) cv) (jn L r' (r' + 2)) ∧ Below w.heap.size w (w1.setCell ⟨gv, r', none⟩ v') := fun v' w1 q1 q2' q3 => by
              have q2 : wr.grownBy w1 (some g) := hg0.trans q2'
              refine ⟨⟨q2.cell hc1 (by simp; exact hgv), (World.frozen?_of_block (q2.block gv p4 (by simp; exact hgv))).trans hf1⟩, ?_, (hbel.grown q2 hsz (fun k hk => by cases hk; exact (o4.lt g rfl).1)).setCell p3 v'⟩
              rw [jn_join]
              have := ownR_longer (E := 23) (E1 := 3) (nv := r' + 1) (cv := cv) (n := m) (c := cm) (L := L.take r') (by rw [htl]; exact o1) o2 (fun i hi => by
                obtain ⟨a, n, c, e, hI, hd⟩ := o3 i hi
                exact ⟨a, n, c, e, hI, fun b off hn ha => ⟨fun e => (hd b off hn ha).1 (by rw [← e]; rfl), (hd b off hn ha).2⟩⟩) hgv q1 q2 q3 (by omega) p4
              rw [htl] at this
              exact this
            have Hnew := hid_ hnew
            have HO4 : Hid (wr.drew.ownsRow w.heap.size 3 1 (.slice (some ⟨g, 0, none⟩) m cm) m ((L.getD r' []).map (Value.int .i64))) := hid_ o4
            have HI : Hid (IntsAt wr.drew a1 n1 c1 (L.getD (r' + 1) [])) := hid_ ⟨hrow.len, hrow.le, hrow.small, hrow.cells⟩
            have Hp4 := hid_ p4
            have hkk : ((r' : Int) + 1 == (r' : Int) + 1) = true := by simp
            have hr0 : (0 : Int) ≤ (r' : Int) := by omega
            have hr1 : (r' : Int) < (r' : Int) + 1 := by omega
            have hr2 : (0 : Int) ≤ (r' : Int) + 1 := by omega
            have hr3 : (r' : Int) + 1 < (n : Int) := by omega
            have hr4 : ((r' : Int) + 1).toNat = r' + 1 := by omega
            clear hnew o1 o2 o3 o4 o5 hrow hJ hml htl hmem hgv
            go_wp2
            go_region_law (refine step_append_row rfl (.tmp 35) (.tmp 39) rfl w.heap.size (.slice (some ⟨g, 0, none⟩) m cm) m _ (by simp [Act.eval]) HO4.out _ n1 c1 _ (by simp [Act.eval]) HI.out (by omega) (by simpa using hsz) ?_; intro v' w1 k1 k2 k3; obtain ⟨g', cap', rfl, -, -, -, -⟩ := own_form k1 (by omega); obtain ⟨⟨c', f'⟩, hO, hB⟩ := Hnew.out _ w1 k1 k2 k3)
            all_goals
              have HO := hid_ hO
              have HB := hid_ hB
              clear hO hB k1 k2 k3
              go_wp2
              exact ⟨⟨r' + 2, by omega, by go_num, ⟨fun _ => HO.out, fun h => absurd h (by omega)⟩, HB.out⟩, by simp [intOf]; omega⟩
          · have hO := hJ.1 hkr
            obtain ⟨vs, o1, o2⟩ := hO.has
            have hvl : vs.length = (jn L r' k).length := by simpa using o1.1
            have hvb := o1.lt
            have hjl := jn_len L r' k
            have Hpush := hid_ (jn_push (r := r') hkl hkr)
            have hown0 : (wr.alloc (.cells #[] 3)).ownsRow wr.heap.size 3 1 (.slice (some ⟨wr.heap.size, 0, none⟩) 0 0) 0 (([] : List Int).map (Value.int .i64)) := World.ownsRow_made wr #[] 0 (Nat.le_refl _) (by omega) rfl
            have hI := hrow.below ((Below.refl _ wr).alloc (Nat.le_refl _) (.cells #[] 3)) (Nat.le_refl _)
            have hkk : ((k : Int) == (r' : Int) + 1) = false := by simp; omega
            have Hkr := hid_ hkr
            have Ho2 := hid_ o2
            have Hvl := hid_ hvl
            have Hvb := hid_ hvb
            have HHrow := hid_ hrow
            have Hjl := hid_ hjl
            obtain ⟨y, hy⟩ : ∃ y, L.getD k [] = y := ⟨_, rfl⟩
            rw [hy] at HHrow Hpush hrow hI
            have Hy := hid_ hy
            clear hy
            clear hJ hO o2 hkr hvl hvb hjl hmem hrow
            go_wp2_with (first
              | (at_builtin; refine wpList_append_ints _ rfl (.tmp 43) (.tmp 47) _ rfl wr.heap.size 3 i0 Try.underlying23 hi0 hz0 hz1 hz2 _ _ _ rfl hown0 _ _ _ _ rfl hI (by omega) (by simp) ?_; intro v1 w2 hown2 hg2 hat2; have hb2 : Below wr.heap.size wr w2 := below_new hg2; rw [Nat.zero_add, List.nil_append] at hown2; obtain ⟨g1, cap1, rfl, k1, k2, k3, k4⟩ := own_form hown2 hpos; have o1' := own_below o1 hb2 (Nat.le_refl _); have hsz2 := hb2.size)
              | (at_builtin; refine wpList_push_val2 _ rfl (.tmp 42) (.tmp 49) _ rfl w.heap.size 23 i1 Try.underlying22 hi1 hz0' rfl hz1' hz2' (by omega) _ _ _ rfl o1' (.slice (some ⟨g1, 0, none⟩) n1 cap1) rfl 23 rfl (by have := Hjl.out; omega) (by omega) ?_; intro v3 w3 hown3 hg3 hat3))
            obtain ⟨g, hR⟩ := ownR_push (L := jn L r' k) (r := y) hsz Hvl.out Ho2.out (fun k hk => (Hvb.out k hk).2) hb2 hpos hown2 hown3 hg3 hat3
            have HR := hid_ hR
            have hbel2 : Below w.heap.size w w2 := hbel.trans (hb2.mono hsz)
            have hbel3 : Below w.heap.size w w3 := below_app hbel2 (Nat.le_trans hsz hsz2) o1' hg3
            go_roundw
            case rel =>
              refine ⟨k + 1, by omega, by go_num, ⟨fun h => ?_, fun h => ?_⟩, hbel3⟩
              · rw [Hpush.out]; exact HR.out.ownL
              · obtain rfl : k = r' := by omega
                have e : jn L k k = L.take k := by unfold jn; rw [if_pos (by omega)]
                have := HR.out
                rw [e, ← Hy.out] at this
                exact ⟨g, this⟩
            case measure => simp [intOf]; omega
        · obtain rfl : k = n := by omega
          have HO := hid_ (hJ.1 (by omega))
          have HB := hid_ hbel
          clear hJ hbel
          go_wp2
          go_ret2
          exact ⟨_, by rw [He.out]; rfl, by rw [Hf.out]; exact ⟨HO.out, HB.out⟩⟩
    · have hr' : Within r 0 ((n : Int) - 2) = false := by simpa using hr
      have He : Hid (joinErr L r = 4) := hid_ (by rw [joinErr, if_pos he, if_pos (by simp [Within] at hr; omega)])
      have Hf : Hid (joinRes L r = []) := hid_ (by rw [joinRes, He.out]; rfl)
      clear he hg hlen hr
      go_enter Try.func27, Try.ntmps27
      go_wp2_with fail
      refine Hv.out.mono ?_
      rintro e w1 ⟨rfl, hb1⟩
      go_wp2_with (go_at_call 72; refine (within_calls _ _ _ _).mono ?_; rintro e w' ⟨rfl, rfl⟩)
      go_ret2
      exact ⟨_, by rw [He.out]; rfl, by rw [Hf.out]; exact MadeL.none_ _ hb1⟩
  · have He : Hid (joinErr L r = validT L) := hid_ (if_neg he)
    have Hf : Hid (joinRes L r = []) := hid_ (by rw [joinRes, if_neg (by rw [He.out]; exact he)])
    generalize validT L = er at hval he He
    have hq : (er != 0) = true := by simpa using he
    have Hv := hid_ hval; clear hval he hlen
    go_enter Try.func27, Try.ntmps27
    go_wp2_with fail
    refine Hv.out.mono ?_
    rintro e w2 ⟨rfl, hb2⟩
    go_wp2
    go_ret2
    exact ⟨_, by rw [He.out]; rfl, by rw [Hf.out]; exact MadeL.none_ _ hb2⟩
end Go.Proofs.Ytoopgmoopmbfnaa
