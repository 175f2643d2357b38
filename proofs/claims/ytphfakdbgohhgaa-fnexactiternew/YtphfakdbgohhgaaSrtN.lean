/-
  Two neighbours out of order. Nothing here speaks of a program.
-/
import Derived.Test.YtphfakdbgohhgaaMathH
namespace Go.Proofs.Ytphfakdbgohhgaa
open Go.RowKit

theorem srt_no {L : List KV} {p : Nat} (h1 : p + 1 < L.length) (h : ¬ kless (L[p]'(by omega)).1 L[p + 1].1 = true) : ¬ Srt L := fun hs => h ((srt_adj L).1 hs p h1)
end Go.Proofs.Ytphfakdbgohhgaa
