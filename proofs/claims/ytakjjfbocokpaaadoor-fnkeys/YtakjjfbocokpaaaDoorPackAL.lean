/-
  Texts of this proof, put together: SumI.
-/
import Derived.Test.YtakjjfbocokpaaaDoorPackAF
import Derived.Test.YtakjjfbocokpaaaDoorPackAK
import Derived.Test.YtakjjfbocokpaaaDoorPackAE
import Derived.Deep.RegionHeld3

/-
  Contract of impl.summed (a string with its checksum ahead of it), where the table of the program holds its sixteen words.
-/
namespace Go.Proofs.YtakjjfbocokpaaaDoor
open Go.ChangeShapes Go.WideShapes Go.ChangeAt Go.RowKit

set_option maxHeartbeats 1000000 in
set_option maxRecDepth 20000 in
theorem iSummed_any (S : List UInt8) (w : World) (hl : S.length ≤ 1048000) (h0 : 1 < w.heap.size) (hT : Hid (CrcTabIn w)) :
    Calls Tryd.prog 55 #[.string ⟨S.toArray⟩] w (StrPost w (fixedV (crcI S) 4 ++ S)) := by
  have hcb := crcI_bd S
  have hf4 := fixedV4 (crcI S) hcb
  have hadd := run_cat (fixedV (crcI S) 4) S (by omega)
  have HL := hide hl
  clear hl
  go_enter Tryd.func55, Tryd.ntmps55
  go_wp2_with fail
  refine (iCrc_any ⟨S.toArray⟩ _ (by rw [size_of]; have := HL.out; unfold maxLen; omega) h0 hT).mono ?_
  rw [bl_of S, show 4294967295 - (crcRun 4294967295 S : Int) = crcI S from rfl]
  rintro e w3 ⟨rfl, hb3⟩
  have HB3 := hide hb3
  clear hb3
  go_wp2_with fail
  refine (iFixed_any (crcI S) 4 _ (by omega)).mono ?_
  rintro e w4 ⟨rfl, hb4⟩
  have HB4 := hide (HB3.out.trans (hb4.mono HB3.out.size))
  clear hb4 HB3
  go_wp2_with fail
  go_ret
  exact ⟨rfl, HB4.out⟩
end Go.Proofs.YtakjjfbocokpaaaDoor
