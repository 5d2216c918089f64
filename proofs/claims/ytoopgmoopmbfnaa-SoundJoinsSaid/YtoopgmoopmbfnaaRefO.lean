import Derived.Test.YtoopgmoopmbfnaaSndS
import Derived.Test.YtoopgmoopmbfnaaRefL
namespace Go.Proofs.Ytoopgmoopmbfnaa
open Go.RowKit Go.Proofs.Kv Go.Proofs.Snd

theorem isSet_as {a : Option Addr} {n c : Nat} {l : List Int} {lo hi : Int} {w : World} {b : Bool} (h : IntsAt w a n c l) (hb : IsSet l lo hi = b) :
    Calls Try.prog 103 #[.slice a n c, .int .i64 lo, .int .i64 hi] w fun e w' => e = .returned (.bool b) ∧ ∃ q, w' = w.drewN q := by subst hb; exact isSet_calls a n c l lo hi w h
theorem same_as {a : Option Addr} {n c : Nat} {l : List Int} {a' : Option Addr} {n' c' : Nat} {l' : List Int} {w : World} {b : Bool} (h : IntsAt w a n c l) (h' : IntsAt w a' n' c' l') (hb : Same l l' = b) :
    Calls Try.prog 41 #[.slice a n c, .slice a' n' c'] w fun e w' => e = .returned (.bool b) ∧ ∃ q, w' = w.drewN q := by subst hb; exact same_calls a n c l a' n' c' l' w h h'

/-! ### the document's Named -/
def namedTo (L : List (List Int)) (s : List Int) (NS : List (Int × Int)) (k : Nat) : List (Int × Int) := (NS.take k).filter fun p => Same (standL L p.1 p.2) s
theorem namedTo_snoc {L : List (List Int)} {s : List Int} {NS : List (Int × Int)} {k : Nat} (hk : k < NS.length) :
    namedTo L s NS (k + 1) = if Same (standL L (NS.getD k (0, 0)).1 (NS.getD k (0, 0)).2) s then namedTo L s NS k ++ [NS.getD k (0, 0)] else namedTo L s NS k := by
  rw [namedTo, Kv.take_snoc NS (0, 0) k hk, List.filter_append]
  generalize NS.getD k (0, 0) = z
  cases h : Same (standL L z.1 z.2) s <;> simp [namedTo, h]
theorem namedTo_le (L : List (List Int)) (s : List Int) (NS : List (Int × Int)) (k : Nat) : (namedTo L s NS k).length ≤ NS.length := by
  refine Nat.le_trans (List.length_filter_le _ _) ?_
  rw [List.length_take]; omega
set_option maxRecDepth 100000 in
set_option maxHeartbeats 1000000 in
theorem refNamed_calls (a : Option Addr) (n c : Nat) (L : List (List Int)) (a' : Option Addr) (n' c' : Nat) (s : List Int) (w : World) (h : ListsAt w a n c L) (h' : IntsAt w a' n' c' s) (hs : L.flatten.length ≤ 100000) :
    Calls Try.prog 68 #[.slice a n c, .slice a' n' c'] w fun e w' => ∃ v, e = .returned (.tuple #[v, .int .i64 (namedErr L s)]) ∧ MadeP 71 w w' v (namedRes L s) := by
  obtain ⟨i0, hi0, hz0, hz1, hz2⟩ := info_parts Try.infoName
  have hval := refValidate_calls a n c L w h hs
  by_cases he : validT L = 0
  · rw [he] at hval
    have Hv := hid_ hval; clear hval
    have hg := good_of he
    have hlen : L.length = n := h.len
    have hn6 := hg.n6
    rw [hlen] at hn6
    cases hset : IsSet s 0 5 with
    | false =>
      have He : Hid (namedErr L s = 1) := hid_ (by rw [namedErr, if_pos he, hset]; rfl)
      have Hf : Hid (namedRes L s = []) := hid_ (by rw [namedRes, He.out]; rfl)
      go_enter Try.func68, Try.ntmps68
      go_wp2_with fail
      refine Hv.out.mono ?_
      rintro e w1 ⟨rfl, hb1⟩
      have Hset := hid_ (isSet_as (h'.below hb1 (Nat.le_refl _)) hset)
      clear h h' hset he hg Hv
      go_wp2_with fail
      refine Hset.out.mono ?_
      rintro e w2 ⟨rfl, q, hq⟩
      have Hb2 : Hid (Below w.heap.size w w2) := hid_ (by rw [hq]; exact below_drewN hb1 q)
      clear hq
      go_wp2
      go_ret2
      exact ⟨_, by rw [He.out]; rfl, by rw [Hf.out]; exact MadeP.none_ _ Hb2.out⟩
    | true =>
      have He : Hid (namedErr L s = 0) := hid_ (by rw [namedErr, if_pos he, hset]; rfl)
      have Hf : Hid (namedRes L s = namedTo L s (namesR L) (namesR L).length) := hid_ (by rw [namedRes, He.out, namedTo, List.take_length]; rfl)
      have Hat : Hid (∀ k, k < (namesR L).length → ∃ (x : Int) (y : Nat), (namesR L).getD k (0, 0) = (x, (y : Int)) ∧ y < n) := hid_ fun k hk => by
        obtain ⟨x, y, h1, h2⟩ := namesR_at hg hk
        exact ⟨x, y, h1, by omega⟩
      have hN1 := namesR_len hg
      go_enter Try.func68, Try.ntmps68
      go_wp2_with fail
      refine Hv.out.mono ?_
      rintro e w0 ⟨rfl, hb0⟩
      have Hset := hid_ (isSet_as (h'.below hb0 (Nat.le_refl _)) hset)
      clear hset Hv he
      go_wp2_with fail
      refine Hset.out.mono ?_
      rintro e w1 ⟨rfl, q, hq⟩
      have hb1 : Below w.heap.size w w1 := by rw [hq]; exact below_drewN hb0 q
      have Hnm := hid_ (names_calls a n c L w1 (h.below hb1 (Nat.le_refl _)) (by omega))
      clear hq hb0 Hset
      go_wp2_with fail
      refine Hnm.out.mono ?_
      rintro e w2 ⟨v2, rfl, hm2⟩
      obtain ⟨a2, c2, rfl, hP2⟩ := hm2.at_
      have Hb2 : Hid (Below w.heap.size w w2) := hid_ (below_then hb1 hm2.bel)
      clear hm2 Hnm hb1
      generalize hNS : namesR L = NS at hP2 Hat Hf hN1
      clear hNS
      generalize hNl : NS.length = N at hP2 Hat hN1 Hf
      have Hnl := hid_ hNl
      clear hNl hlen
      go_wp2
      go_loopw [7, 9] (fun v i wr => ∃ k : Nat, k ≤ N ∧ i = .int .i64 k ∧ wr.ownsRow w2.heap.size 71 2 v (namedTo L s NS k).length ((namedTo L s NS k).flatMap encN) ∧ Below w2.heap.size w2 wr) (fun _ i _ => N - (intOf i).toNat)
      case atStart => exact ⟨0, by omega, rfl, World.ownsRow_nil _ _ _ _, Below.refl _ _⟩
      case round =>
        obtain ⟨k, hk, rfl, hown, hbel⟩ := hrel
        have hsz := hbel.size
        by_cases hlt : k < N
        · obtain ⟨b1, off1, rfl, hb1, hc1, hc2⟩ := hP2.cells k hlt
          have hd1 := (hbel.cell (p := ⟨b1, off1 + k * 2, none⟩) hb1).trans hc1
          have hd2 := (hbel.cell (p := ⟨b1, off1 + k * 2 + 1, none⟩) hb1).trans hc2
          obtain ⟨x, y, hxy, hy⟩ := Hat.out k hlt
          have hsn := namedTo_snoc (L := L) (s := s) (NS := NS) (k := k) (by rw [Hnl.out]; exact hlt)
          rw [hxy] at hd1 hd2 hsn
          simp only at hd1 hd2 hsn
          have Hst := hid_ (stand_calls a n c L x y wr (h.below (Hb2.out.trans (hbel.mono Hb2.out.size)) (Nat.le_refl _)) hs (by omega) (by omega))
          have hle := namedTo_le L s NS k
          have Hll : Hid ((namedTo L s NS k).length + 1 ≤ 1000000) := hid_ (by rw [Hnl.out] at hle; omega)
          generalize namedTo L s NS k = cur at hown hsn Hll hle
          generalize standL L x y = l at Hst hsn
          cases hsm : Same l s with
          | true =>
            rw [hsm, if_pos rfl] at hsn
            have Hsn := hid_ hsn
            clear hc1 hc2 hsn hle
            go_wp2_with fail
            refine Hst.out.mono ?_
            rintro e w3 ⟨v3, rfl, hm3⟩
            obtain ⟨a3, c3, rfl, hI3⟩ := hm3.at_
            have hb3 : Below w2.heap.size w2 w3 := hbel.trans (hm3.bel.mono hsz)
            have Hsame := hid_ (same_as hI3 (h'.below (Hb2.out.trans (hb3.mono Hb2.out.size)) (Nat.le_refl _)) hsm)
            have hown3 := own_below hown hm3.bel (Nat.le_refl _)
            have he1 := (hb3.cell (p := ⟨b1, off1 + k * 2, none⟩) hb1).trans ((hbel.cell (p := ⟨b1, off1 + k * 2, none⟩) hb1).symm.trans hd1)
            have he2 := (hb3.cell (p := ⟨b1, off1 + k * 2 + 1, none⟩) hb1).trans ((hbel.cell (p := ⟨b1, off1 + k * 2 + 1, none⟩) hb1).symm.trans hd2)
            clear hm3 hI3 hsm hd1 hd2 hown Hst
            go_wp2_with fail
            refine Hsame.out.mono ?_
            rintro e w4 ⟨rfl, q4, hq4⟩
            have hb4 : Below w2.heap.size w2 w4 := by rw [hq4]; exact below_drewN hb3 q4
            have hown4 : w4.ownsRow w2.heap.size 71 2 u7 cur.length (cur.flatMap encN) := by rw [hq4]; exact own_drewN hown3 q4
            have hf1 : w4.cell? ⟨b1, off1 + k * 2, none⟩ = some (.int .i64 x) := by rw [hq4]; exact he1
            have hf2 : w4.cell? ⟨b1, off1 + k * 2 + 1, none⟩ = some (.int .i64 y) := by rw [hq4]; exact he2
            clear hq4 hb3 hown3 he1 he2 Hsame
            go_wp2_with (at_builtin; refine wpList_append_pair _ rfl (.tmp 34) (.tmp 39) _ rfl w2.heap.size 71 i0 Try.underlying66 hi0 hz0 hz1 hz2 _ _ _ rfl hown4 _ _ _ rfl Hll.out hb4.size ?_; intro v' w5 hown5 hg5)
            go_roundw
            case rel => exact ⟨k + 1, by omega, by go_num, by rw [Hsn.out, List.length_append]; exact hown5, below_app hb4 hb4.size hown4 hg5⟩
            case measure => simp [intOf]; omega
          | false =>
            rw [hsm, if_neg (by decide)] at hsn
            have Hsn := hid_ hsn
            clear hc1 hc2 hsn hle
            go_wp2_with fail
            refine Hst.out.mono ?_
            rintro e w3 ⟨v3, rfl, hm3⟩
            obtain ⟨a3, c3, rfl, hI3⟩ := hm3.at_
            have hb3 : Below w2.heap.size w2 w3 := hbel.trans (hm3.bel.mono hsz)
            have Hsame := hid_ (same_as hI3 (h'.below (Hb2.out.trans (hb3.mono Hb2.out.size)) (Nat.le_refl _)) hsm)
            have hown3 := own_below hown hm3.bel (Nat.le_refl _)
            clear hm3 hI3 hsm hd1 hd2 hown Hst
            go_wp2_with fail
            refine Hsame.out.mono ?_
            rintro e w4 ⟨rfl, q4, hq4⟩
            have hb4 : Below w2.heap.size w2 w4 := by rw [hq4]; exact below_drewN hb3 q4
            have hown4 : w4.ownsRow w2.heap.size 71 2 u7 cur.length (cur.flatMap encN) := by rw [hq4]; exact own_drewN hown3 q4
            clear hq4 hb3 hown3 Hsame
            go_wp2
            go_roundw
            case rel => exact ⟨k + 1, by omega, by go_num, by rw [Hsn.out]; exact hown4, hb4⟩
            case measure => simp [intOf]; omega
        · obtain rfl : k = N := by omega
          have Hb3 : Hid (Below w.heap.size w wr) := hid_ (below_then Hb2.out hbel)
          go_wp2
          go_ret2
          exact ⟨_, by rw [He.out]; rfl, by rw [Hf.out]; exact ⟨own_base hown Hb2.out.size, Hb3.out⟩⟩
  · have He : Hid (namedErr L s = validT L) := hid_ (if_neg he)
    have Hf : Hid (namedRes L s = []) := hid_ (by rw [namedRes, if_neg (by rw [He.out]; exact he)])
    generalize validT L = er at hval he He
    have hq : (er != 0) = true := by simpa using he
    have Hv := hid_ hval; clear hval he
    go_enter Try.func68, Try.ntmps68
    go_wp2_with fail
    refine Hv.out.mono ?_
    rintro e w2 ⟨rfl, hb2⟩
    go_wp2
    go_ret2
    exact ⟨_, by rw [He.out]; rfl, by rw [Hf.out]; exact MadeP.none_ _ hb2⟩
end Go.Proofs.Ytoopgmoopmbfnaa
