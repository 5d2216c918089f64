import Derived.Test.YtnpdhmejnoplcaaPf
namespace Go.Proofs.Ytnpdhmejnoplcaa
open Go.RowKit Go.Proofs.Kv

/-! ### places -/
def plP (R : Rl) (l : List Int) : List Int := pl (plB R.f R.le R.ri l) (l.length + 1)
set_option maxRecDepth 100000 in
set_option maxHeartbeats 2000000 in
theorem placesP_calls (v : Value) (R : Rl) (a : Option Addr) (n c : Nat) (l : List Int) (w : World) (hr : RuleAt w v R) (h : IntsAt w a n c l) (hn : n ≤ 100) (hsl : setN R.le = true) (hsr : setN R.ri = true) (hw : isWord l = true) :
    Calls Try.prog 110 #[v, .slice a n c] w fun e w' => ∃ v', e = .returned v' ∧ Made 3 w w' v' (plP R l) := by
  obtain ⟨i0, hi0, hz0, hz1, hz2⟩ := info_parts Try.infoInt
  have Hr := hid_ hr
  have Hpl : Hid (plP R l = pl (plB R.f R.le R.ri l) (n + 1)) := hid_ (by rw [plP, h.len])
  obtain ⟨a1, n1, c1, a2, n2, c2, a3, n3, c3, rfl, h1, h2, h3⟩ := hr
  clear h1 h2 h3
  obtain ⟨w1, hw1⟩ : ∃ w1, w.alloc (.cells #[.int .i64 R.f, .slice a1 n1 c1, .slice a2 n2 c2, .slice a3 n3 c3] 24) = w1 := ⟨_, rfl⟩
  have Hb1 : Hid (Below w.heap.size w w1) := hid_ (by rw [← hw1]; exact below_alloc _ _)
  have Hso := hid_ (sidesOf_calls _ R w1 (Hr.out.below Hb1.out (Nat.le_refl _)) hsl hsr)
  obtain ⟨k0, k1, k2, k3⟩ := box4 hw1 (Below.refl _ _)
  go_enter Try.func110, Try.ntmps110
  go_wp2_with (go_at_call 127; refine (Hso.out).mono ?_; rintro e w' ⟨rfl, hbs⟩)
  obtain ⟨w3, hw3⟩ : ∃ w3, w'.alloc (.cells #[.func (.func 182) #[.agg (nbV R.le)] #[], .func (.func 182) #[.agg (nbV R.ri)] #[]] 107) = w3 := ⟨_, rfl⟩
  have hb13 : Below w1.heap.size w1 w3 := by rw [← hw3]; exact hbs.trans ((below_alloc w' _).mono hbs.size)
  have hz3 : w'.heap.size < w3.heap.size := by rw [← hw3]; simp
  have s0 : w3.cell? ⟨w'.heap.size, 0, none⟩ = some (.func (.func 182) #[.agg (nbV R.le)] #[]) := by rw [← hw3, cells_alloc]; rfl
  have s1 : w3.cell? ⟨w'.heap.size, 1, none⟩ = some (.func (.func 182) #[.agg (nbV R.ri)] #[]) := by rw [← hw3, cells_alloc]; rfl
  have Hw1 := hid_ hw1
  have Hk : Hid (∀ W, Below w3.heap.size w3 W → W.cell? ⟨w.heap.size, 0, none⟩ = some (.int .i64 R.f) ∧ W.cell? ⟨w'.heap.size, 0, none⟩ = some (.func (.func 182) #[.agg (nbV R.le)] #[]) ∧ W.cell? ⟨w'.heap.size, 1, none⟩ = some (.func (.func 182) #[.agg (nbV R.ri)] #[])) := hid_ (fun W hW => by
    refine ⟨(box4 Hw1.out (hb13.trans (hW.mono hb13.size))).1, (hW.cell (p := ⟨w'.heap.size, 0, none⟩) hz3).trans s0, (hW.cell (p := ⟨w'.heap.size, 1, none⟩) hz3).trans s1⟩)
  have Hb3 : Hid (Below w.heap.size w w3) := hid_ (Hb1.out.trans (hb13.mono Hb1.out.size))
  have HI := hid_ (fun W (hW : Below w3.heap.size w3 W) => h.below (Hb3.out.trans (hW.mono Hb3.out.size)) (Nat.le_refl _))
  try rw [hw3]
  clear hw1 hw3 hbs hb13 hz3 s0 s1 k0 k1 k2 k3 h
  have hwn : IntKind.i64.wrap ((n : Int) + 1) = (n : Int) + 1 := IntWalk.i64_in _ (by omega)
  go_loopw [5, 13] (fun v i wr => ∃ k : Nat, k ≤ n + 1 ∧ i = .int .i64 k ∧ wr.ownsRow w3.heap.size 3 1 v (pl (plB R.f R.le R.ri l) k).length ((pl (plB R.f R.le R.ri l) k).map (Value.int .i64)) ∧ Below w3.heap.size w3 wr) (fun _ i _ => n + 1 - (intOf i).toNat)
  case atStart => exact ⟨0, by omega, rfl, World.ownsRow_nil _ _ _ _, Below.refl _ _⟩
  case round =>
    obtain ⟨k, hk, rfl, hown, hbel⟩ := hrel
    have hsz := hbel.size
    by_cases hlt : k < n + 1
    · have Hc := hid_ (isPlaceP_calls R.f R.le R.ri a n c l k wr (HI.out wr hbel) hw hn)
      obtain ⟨k0, s0, s1⟩ := Hk.out wr hbel
      have hle := pl_le (plB R.f R.le R.ri l) k
      have hs1 : (pl (plB R.f R.le R.ri l) k).length + 1 ≤ 1000000 := by omega
      have hkn : (k : Int) < (n : Int) + 1 := by omega
      cases hh : plB R.f R.le R.ri l k with
      | true =>
        rw [hh] at Hc
        have Hn := hid_ (pl_hit hh)
        clear hh
        go_wp2_with (first
          | (go_at_call 128; refine (Hc.out).mono ?_; rintro e w' ⟨rfl, hbc⟩)
          | (at_builtin; refine wpList_append_ints _ rfl (.tmp 22) (.tmp 24) _ rfl w3.heap.size 3 i0 Try.underlying22 hi0 hz0 hz1 hz2 _ _ _ rfl ((own_grown hown hbc).alloc _) _ _ _ _ rfl (IntsAt.one _ _ _) hs1 (le_alloc (Nat.le_trans hsz hbc.size)) ?_; intro v' w2 hown1 hg1 hat1))
        go_roundw
        case rel => exact ⟨k + 1, by omega, by go_num, by rw [Hn.out]; simpa using hown1, below_app (hbel.trans (hbc.mono hsz)) (Nat.le_trans hsz hbc.size) (own_grown hown hbc) hg1⟩
        case measure => simp [intOf]; omega
      | false =>
        rw [hh] at Hc
        have Hn := hid_ (pl_miss hh)
        clear hh
        go_wp2_with (go_at_call 128; refine (Hc.out).mono ?_; rintro e w' ⟨rfl, hbc⟩)
        go_roundw
        case rel => exact ⟨k + 1, by omega, by go_num, by rw [Hn.out]; exact own_grown hown hbc, hbel.trans (hbc.mono hsz)⟩
        case measure => simp [intOf]; omega
    · obtain rfl : k = n + 1 := by omega
      have hgt : ¬ ((n + 1 : Nat) : Int) < (n : Int) + 1 := by omega
      go_wp2
      go_ret
      exact ⟨_, rfl, by rw [Hpl.out]; exact own_base hown Hb3.out.size, Hb3.out.trans (hbel.mono Hb3.out.size)⟩
end Go.Proofs.Ytnpdhmejnoplcaa
