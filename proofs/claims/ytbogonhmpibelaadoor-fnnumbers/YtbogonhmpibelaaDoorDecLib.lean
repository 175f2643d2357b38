/-
  Contracts of strconv.Itoa and strconv.Atoi over this program; impl.Dec.
-/
import Derived.Test.YtbogonhmpibelaaDoorShelf
import Derived.Test.YtbogonhmpibelaaDoorMathD
import Derived.Test.YtbogonhmpibelaaDoorConv
import Derived.Test.YtbogonhmpibelaaDoorBytes
import Derived.WalkSmall
import Derived.Lib.SmallJoins
namespace Go.Proofs.YtbogonhmpibelaaDoor
open Go.ChangeShapes Go.WideShapes Go.ChangeAt Go.RowKit

/-- the table of the powers of ten, where the library keeps it -/
def Pow (w : World) : Prop := Lib.TabIs Tryd.prog w "internal/strconv.uint64pow10" .u64 Lib.pow10Tab

theorem below_grow (w : World) (os : Array Obj) (k : Nat) : Below w.heap.size w (Sort.grow (w.drewN k) os) :=
  ⟨rfl, rfl, rfl, by simp [Sort.grow], fun j hj => Sort.heap_grow_old (w.drewN k) os hj⟩

theorem itoa_any (n : Int) (h0 : -9223372036854775808 ≤ n) (h1 : n ≤ 9223372036854775807) (w : World) (ht : Pow w) :
    Calls Tryd.prog 26 #[.int .i64 n] w (StrPost w (Lib.itoa n)) := by
  refine (Any.strconv_Itoa Tryd.laysM171 n h0 h1 w ht).mono ?_
  rintro e w' ⟨rfl, k, os, rfl⟩
  exact ⟨rfl, below_grow w os k⟩

theorem iDec_any (n : Int) (h0 : -9223372036854775808 ≤ n) (h1 : n ≤ 9223372036854775807) (w : World) (ht : Pow w) :
    Calls Tryd.prog 14 #[.int .i64 n] w (StrPost w (Lib.itoa n)) := by
  have H0 := hide h0
  have H1 := hide h1
  have HT := hide ht
  clear h0 h1 ht
  go_enter Tryd.func14, Tryd.ntmps14
  go_wp2_with (go_at_call 26; refine (itoa_any n H0.out H1.out _ HT.out).mono ?_; rintro e w' ⟨rfl, hb⟩; have HB := hide hb; clear hb)
  go_ret
  exact ⟨rfl, HB.out⟩
end Go.Proofs.YtbogonhmpibelaaDoor
