import Derived.Test.YtdnlpikfibdjoaaYL
namespace Go.Proofs.Ytdnlpikfibdjoaa
open Go.RowKit Go.Proofs.Kv Go

/-! ### the law StemmaLoses -/
theorem place_ok {T : List (List Int)} (g : GoodT T) {p : Nat} (hp : p < n0 T) : placesE T [(p : Int)] = 0 := by
  rw [placesE, if_pos (good_valid g), numE_one, if_pos (isNum_iff.2 ⟨by omega, by omega⟩)]
end Go.Proofs.Ytdnlpikfibdjoaa
