/-
  Contract of impl's (*blockWriter).restart.
-/
import Derived.Test.YtegamnpdhiohmaaWriB
namespace Go.Proofs.Ytegamnpdhiohmaa
open Go.ChangeShapes Go.WideShapes Go.ChangeAt Go.RowKit

def RestPost (g : Nat) (X k : List UInt8) (P : List Nat) (w : World) (e : Ending) (w' : World) : Prop := e = .returned (.tuple #[]) ∧ Wri w' g X k P ∧ Below g w w'
/-- of what was there, block g and rows of bytes and of ints may have turned, and nothing below g -/
structure Bent2 (g : Nat) (w w' : World) : Prop where
  below : Below g w w'
  keep : ∀ j cs T f, j ≠ g → T ≠ 5 → T ≠ 3 → w.heap[j]? = some (.cells cs T f) → w'.heap[j]? = some (.cells cs T f)
def StartPost (g : Nat) (X k : List UInt8) (P : List Nat) (w : World) (e : Ending) (w' : World) : Prop := e = .returned (.tuple #[]) ∧ Wri w' g X k P ∧ Bent2 g w w'
theorem Bent2.of_rest {g B : Nat} {W w w' : World} {u u' : Value} {L : List Nat} (h : Bent2 g w W) (hO : OwnsW B W u L) (hg : W.grownBy w' u.ownBlock) (hb : Below g w (w'.setCell ⟨g, 2, none⟩ u')) : Bent2 g w (w'.setCell ⟨g, 2, none⟩ u') :=
  ⟨hb, fun j cs T f h1 h2 h3 h4 => by
    have h5 := h.keep j cs T f h1 h2 h3 h4
    refine (heap_setCell_other w' ⟨g, 2, none⟩ j u' h1).trans ((hg.block j (Array.getElem?_eq_some_iff.1 h5).1 (fun e => ?_)).trans h5)
    obtain ⟨_, cs', hc⟩ := hO.type j e.symm
    rw [hc] at h5
    injection h5 with h5
    injection h5 with _ h6
    exact h3 h6.symm⟩
set_option maxHeartbeats 1000000 in
set_option maxRecDepth 20000 in
theorem restart_any {w : World} {g : Nat} {X k : List UInt8} {P : List Nat} (hw : Wri w g X k P) (hP : P.length ≤ 1000) :
    Calls Try.prog 22 #[.pointer (some ⟨g, 0, none⟩)] w (StartPost g X [] (P ++ [X.length]) w) := by
  obtain ⟨v, u, hx⟩ := hw
  obtain ⟨a, c, rfl⟩ := hx.rest.form'
  obtain ⟨c0, c1, c2⟩ := hx.box.three
  have z1 := hx.box.frozen 1
  have hgl := hx.lt
  obtain ⟨W, hW⟩ : ∃ W, W = w.setCell ⟨g, 1, none⟩ (.string ⟨#[]⟩) := ⟨_, rfl⟩
  have hx1 := hx.set1 []
  rw [← hW] at hx1
  have HBW := hide (show Below g w W by rw [hW]; exact (Below.refl g w).setCell (p := ⟨g, 1, none⟩) (Nat.le_refl g) _)
  have HX := hide hx1
  have HBE := hide (fun o => show Bent2 g w (W.alloc o) from ⟨HBW.out.alloc (Nat.le_of_lt HX.out.lt) o, fun j cs T f h1 _ _ h4 => by
    have h5 : W.heap[j]? = some (.cells cs T f) := by rw [hW]; exact (heap_setCell_other w ⟨g, 1, none⟩ j _ h1).trans h4
    exact (Below.heap_alloc W o j (Array.getElem?_eq_some_iff.1 h5).1).trans h5⟩)
  obtain ⟨n, hn⟩ : ∃ n, n = X.length := ⟨_, rfl⟩
  have HSZ := hide (fun W' (h : Wri W' g X [] P) => size_any h)
  have HS1 := hide (show Wri W g X [] P from ⟨_, _, hx1⟩)
  have HS2 := hide (show Wri W.drew g X [] P from ⟨_, _, hx1.drew⟩)
  rw [← hn] at HSZ ⊢
  obtain ⟨m, hm⟩ : ∃ m, (P ++ [n]).length = m := ⟨_, rfl⟩
  obtain ⟨p, hp⟩ : ∃ p, p = P.length := ⟨_, rfl⟩
  rw [← hp] at HX c2
  have HO := hide (HX.out.rest)
  have hlen : P.length + 1 ≤ 1099511627776 := by omega
  have HM := hide hm
  have HEnd := hide (fun (w' : World) (hg : (W.alloc (.cells #[.int .i64 (n : Int)] 3)).grownBy w' (Value.slice a p c).ownBlock) (u' : Value) (hu : OwnsW (g + 1) w' u' (P ++ [n])) => show Wri (w'.setCell ⟨g, 2, none⟩ u') g X [] (P ++ [n]) ∧ Bent2 g w (w'.setCell ⟨g, 2, none⟩ u') ∧ w'.frozen? ⟨g, 2, none⟩ = false ∧ w'.cell? ⟨g, 2, none⟩ = some (.slice a p c) ∧ g < w'.heap.size from by
    have h0 := HX.out.alloc (.cells #[.int .i64 (n : Int)] 3)
    obtain ⟨h1, h2⟩ := h0.grownW hg hu
    refine ⟨⟨_, _, h2⟩, ?_, h1.frozen 2, h1.cell 2 _ rfl, h1.lt⟩
    have h3 := HBW.out.alloc (Nat.le_of_lt HX.out.lt) (.cells #[.int .i64 (n : Int)] 3)
    refine Bent2.of_rest (B := g + 1) (HBE.out _) h0.rest hg ((h3.grown hg (Nat.le_of_lt h0.lt) (fun k hk => by have := (h0.rest.type k hk).1; omega)).setCell (p := ⟨g, 2, none⟩) (Nat.le_refl g) u'))
  clear hx hx1 hn hm hp hP
  go_enter Try.func22, Try.ntmps22
  go_upto_region 1 with (fail)
  rw [← hW]
  clear hW c0 c1 c2 z1 hgl
  obtain ⟨d0, d1, d2⟩ := HX.out.box.three
  have hgl := HX.out.lt
  go_region_law
    (first
      | (go_simp
         go_at_call 50
         refine (HSZ.out _ (by first | with_reducible exact HS1.out | with_reducible exact HS2.out)).mono ?_
         rintro e w2 ⟨rfl, rfl⟩)
      | (refine step_growW rfl (.tmp 9) (.tmp 14) rfl (g + 1) W (.slice a p c) P [n] 1 _ rfl rfl HO hgl rfl rfl hlen m HM.out ?_
         intro a' c' w' HO' HG'
         obtain ⟨p1, p2, z2, y2, hgl'⟩ := HEnd.out w' HG'.out _ HO'.out
         have HP1 := hide p1
         have HP2 := hide p2
         clear p1 p2 HG' HO'))
  all_goals
    go_wp2_with fail
    go_end0
    exact ⟨rfl, HP1.out, HP2.out⟩
end Go.Proofs.Ytegamnpdhiohmaa
