/-
  Contract of impl.MemOk.
-/
import Derived.Test.YtphfakdbgohhgaaEntA
namespace Go.Proofs.Ytphfakdbgohhgaa
open Go.ChangeShapes Go.WideShapes Go.ChangeAt Go.RowKit

theorem iMemOk_any (a : Option Addr) (cap : Nat) (L : List En) (w : World) (hr : elEnt.Rd w w.heap.size a L) (hl : L.length ≤ 2097152) :
    Calls Try.prog 55 #[.slice a L.length cap] w (BoolPost w (decide (memOkL L))) := by
  have HC := hide (entsInOrder_any a cap L w hr hl)
  clear hr
  obtain ⟨V, hV⟩ : ∃ V, V = decide (memOkL L) := ⟨_, rfl⟩
  obtain ⟨U, hU⟩ : ∃ U, U = decide (entsOk L) := ⟨_, rfl⟩
  by_cases h : L.length ≤ 60
  · have HV := hide (show V = U by rw [hV, hU]; exact decide_eq_decide.2 ⟨fun k => k.2, fun k => ⟨h, k⟩⟩)
    rw [← hU] at HC
    rw [← hV]
    obtain ⟨n, hn⟩ : ∃ n, n = L.length := ⟨_, rfl⟩
    rw [← hn] at HC h ⊢
    clear hn hl hV hU
    go_enter Try.func55, Try.ntmps55
    go_wp2_with fail
    refine HC.out.mono ?_
    rintro e w1 ⟨rfl, hb1⟩
    have HB := hide hb1
    go_wp2_with fail
    go_ret
    exact ⟨by rw [HV.out]; rfl, HB.out⟩
  · have HV := hide (show V = false from hV.trans (decide_eq_false fun k => h k.1))
    rw [← hV]
    obtain ⟨n, hn⟩ : ∃ n, n = L.length := ⟨_, rfl⟩
    rw [← hn] at HC h ⊢
    clear hn hl hV hU
    go_enter Try.func55, Try.ntmps55
    go_wp2_with fail
    go_ret
    exact ⟨by rw [HV.out]; rfl, Below.refl _ _⟩
end Go.Proofs.Ytphfakdbgohhgaa
