import Derived.Test.YtmhnbchfmddhcaaLandL

/- When a flyer comes to a net, and whether it takes the flyer, is as the document says. -/
namespace Go.Proofs.Ytmhnbchfmddhcaa
open Go.RowKit Go.Shelf
theorem landsAll_any (f : Fly) (n : Net) (w : World) : Calls Try.prog 4 #[.agg #[.int .i64 f.pos.x.lo, .int .i64 f.pos.x.hi, .int .i64 f.pos.z.lo, .int .i64 f.pos.z.hi, .int .i64 f.speed.x.lo, .int .i64 f.speed.x.hi, .int .i64 f.speed.z.lo, .int .i64 f.speed.z.hi, .int .i64 f.mass], .agg #[.int .i64 n.x.lo, .int .i64 n.x.hi, .int .i64 n.height]] w fun e w' => e = .returned (.bool true) ∧ Below w.heap.size w w' := by
  cases hfy : f.ok
  · exact lands_0 f n w hfy
  · cases hnk : n.ok
    · exact lands_1 f n w hfy hnk
    · cases hc : comesB f n
      · exact lands_2 f n w hfy hnk hc
      · exact lands_3 f n w hfy hnk hc
end Go.Proofs.Ytmhnbchfmddhcaa
