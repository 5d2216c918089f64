import Derived.Test.YtebbmhlkdfmmcaaGreatRz
import Derived.Test.YtebbmhlkdfmmcaaGreatPgk
import Derived.Deep.RegionHeld3
import Derived.Laws.EntriesVeiled
namespace Go.Proofs.YtebbmhlkdfmmcaaGreat
open Go.RowKit Go.Proofs.Kv

/-! ### back, Back, Mirror -/
end Go.Proofs.YtebbmhlkdfmmcaaGreat
namespace Go.Proofs.YtebbmhlkdfmmcaaGreat
open Go.RowKit Go.Proofs.Kv

/-! ### Mirror -/
def mirR (R : Rl) : Rl := if validR R = 0 then ⟨R.f, R.o.reverse, R.ri, R.le⟩ else ⟨0, [], [], []⟩
theorem own_setCell_lo {w : World} {B E s n : Nat} {v : Value} {xs : List Value} (h : w.ownsRow B E s v n xs) {b : Nat} (hb : b < B) (i : Nat) (u : Value) : (w.setCell ⟨b, i, none⟩ u).ownsRow B E s v n xs :=
  ⟨h.1, h.2.imp id fun ⟨g, cap, cur, h1, h2, h3, h4⟩ => ⟨g, cap, cur, h1, h2, (Below.heap_setCell w ⟨b, i, none⟩ u g (by show g ≠ b; omega)).trans h3, h4⟩⟩
theorem ints_own {w : World} {B E n c : Nat} {a : Option Addr} {l : List Int} (h : w.ownsRow B E 1 (.slice a n c) l.length (l.map (Value.int .i64))) : IntsAt w a n c l := by
  obtain ⟨a', c', e, i⟩ := IntsAt.own h
  injection e with e1 e2 e3
  subst e1; subst e2; subst e3
  exact i
end Go.Proofs.YtebbmhlkdfmmcaaGreat
