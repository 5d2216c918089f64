import Derived.Test.YtdnlpikfibdjoaaY9
namespace Go.Proofs.Ytdnlpikfibdjoaa
open Go.RowKit Go.Proofs.Kv

/-! ### the law StemmaChecks -/
def ClaimAt (w : World) (v : Value) (X : Tr) (p : Int) (R : List Int) : Prop :=
  ∃ a1 n1 c1 a2 n2 c2 a3 n3 c3, v = .agg #[.slice a1 n1 c1, .slice a2 n2 c2, .int .i64 p, .slice a3 n3 c3] ∧ IntsAt w a1 n1 c1 X.par ∧ IntsAt w a2 n2 c2 X.at_ ∧ IntsAt w a3 n3 c3 R
end Go.Proofs.Ytdnlpikfibdjoaa
