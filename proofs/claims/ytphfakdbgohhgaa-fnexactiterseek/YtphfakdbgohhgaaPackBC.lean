/-
  Texts of this proof, put together: IterL, IterN, IterSk.
-/
import Derived.Test.YtphfakdbgohhgaaPackAZ
import Derived.Test.YtphfakdbgohhgaaPackBA
import Derived.Test.YtphfakdbgohhgaaPackBB
import Derived.Test.YtphfakdbgohhgaaPackAD
import Derived.Deep.RegionHeld3

/-
  Contract of (impl.Iter).move. (The tree of orders is written by mkmove.py.)
-/
namespace Go.Proofs.Ytphfakdbgohhgaa
open Go.ChangeShapes Go.WideShapes Go.ChangeAt Go.RowKit Go.Shelf
attribute [local go_sem] Oper.semAt_some

/-- a round that is about to return: what it reads (X, Y) and what it answers (A, K, b), each in a block of its own -/
structure MvS (s Bx : Nat) (X : Array Value) (Y : Option (Array Value)) (A K : Array Value) (b : Bool) (V W : World) : Prop where
  ko : KeepsOthers V W
  be : Below s V W
  xx : BoxV 56 W s X
  yy : ∀ vs, Y = some vs → BoxV 41 W Bx vs
  aa : BoxV 56 W (s + 1 + 1) A
  kk : BoxV 41 W (s + 1 + 1 + 1) K
  bb : BoxV 4 W (s + 1 + 1 + 1 + 1) #[.bool b]
  ord : s + 1 + 1 + 1 + 1 < Bx
section
variable {s Bx : Nat} {X : Array Value} {Y : Option (Array Value)} {A K : Array Value} {b : Bool} {V W : World} {v0 v1 v2 v3 k0 k1 p0 p1 p2 p3 q0 q1 : Value}
theorem MvS.low (h : MvS s Bx X Y A K b V W) : s + 1 + 1 + 1 + 1 + 1 ≤ W.heap.size := h.bb.lt
theorem MvS.call {W2 : World} (h : MvS s Bx X Y A K b V W) (hb : Below W.heap.size W W2) : MvS s Bx X Y A K b V W2 :=
  ⟨h.ko.trans ⟨hb.size, fun k o hk _ => (hb.block k (Array.getElem?_eq_some_iff.1 hk).1).trans hk⟩, h.be.trans (hb.mono (by have := h.low; omega)), h.xx.below hb h.xx.lt, fun vs e => (h.yy vs e).below hb (h.yy vs e).lt, h.aa.below hb h.aa.lt, h.kk.below hb h.kk.lt, h.bb.below hb h.bb.lt, h.ord⟩
theorem MvS.set1 (h : MvS s Bx X Y A K b V W) (p : Addr) (hp : s + 1 + 1 ≤ p.block) (hp2 : p.block ≠ Bx) (u : Value) : KeepsOthers V (W.setCell p u) ∧ Below s V (W.setCell p u) ∧ BoxV 56 (W.setCell p u) s X ∧ (∀ vs, Y = some vs → BoxV 41 (W.setCell p u) Bx vs) :=
  ⟨h.ko.trans (KeepsOthers.setCell _ _ _), h.be.setCell (by omega) _, h.xx.set_other (by omega) _, fun vs e => (h.yy vs e).set_other hp2 _⟩
theorem MvS.sA (h : MvS s Bx X Y #[v0, v1, v2, v3] K b V W) (i : Nat) (u : Value) {A' : Array Value} (hA : (#[v0, v1, v2, v3] : Array Value).setIfInBounds i u = A') : MvS s Bx X Y A' K b V (W.setCell ⟨s + 1 + 1, i, none⟩ u) := by
  have ho := h.ord
  obtain ⟨a1, a2, a3, a4⟩ := h.set1 ⟨s + 1 + 1, i, none⟩ (Nat.le_refl _) (by show s + 1 + 1 ≠ Bx; omega) u
  exact ⟨a1, a2, a3, a4, hA ▸ h.aa.set u, h.kk.set_other (by show s + 1 + 1 ≠ _; omega) _, h.bb.set_other (by show s + 1 + 1 ≠ _; omega) _, ho⟩
theorem MvS.s8 (h : MvS s Bx X Y #[v0, v1, v2, v3] K b V W) (x0 x1 x2 x3 : Value) : MvS s Bx X Y #[x0, x1, x2, x3] K b V ((((W.setCell ⟨s + 1 + 1, 0, none⟩ x0).setCell ⟨s + 1 + 1, 1, none⟩ x1).setCell ⟨s + 1 + 1, 2, none⟩ x2).setCell ⟨s + 1 + 1, 3, none⟩ x3) :=
  (((h.sA 0 x0 rfl).sA 1 x1 rfl).sA 2 x2 rfl).sA 3 x3 rfl
theorem MvS.sK (h : MvS s Bx X Y A #[k0, k1] b V W) (i : Nat) (u : Value) {K' : Array Value} (hA : (#[k0, k1] : Array Value).setIfInBounds i u = K') : MvS s Bx X Y A K' b V (W.setCell ⟨s + 1 + 1 + 1, i, none⟩ u) := by
  have ho := h.ord
  obtain ⟨a1, a2, a3, a4⟩ := h.set1 ⟨s + 1 + 1 + 1, i, none⟩ (Nat.le_succ _) (by show s + 1 + 1 + 1 ≠ Bx; omega) u
  exact ⟨a1, a2, a3, a4, h.aa.set_other (by show s + 1 + 1 + 1 ≠ _; omega) _, hA ▸ h.kk.set u, h.bb.set_other (by show s + 1 + 1 + 1 ≠ _; omega) _, ho⟩
theorem MvS.s9 (h : MvS s Bx X Y A #[k0, k1] b V W) (x0 x1 : Value) : MvS s Bx X Y A #[x0, x1] b V ((W.setCell ⟨s + 1 + 1 + 1, 0, none⟩ x0).setCell ⟨s + 1 + 1 + 1, 1, none⟩ x1) :=
  (h.sK 0 x0 rfl).sK 1 x1 rfl
theorem MvS.s10 (h : MvS s Bx X Y A K b V W) (c : Bool) : MvS s Bx X Y A K c V (W.setCell ⟨s + 1 + 1 + 1 + 1, 0, none⟩ (.bool c)) := by
  have ho := h.ord
  obtain ⟨a1, a2, a3, a4⟩ := h.set1 ⟨s + 1 + 1 + 1 + 1, 0, none⟩ (by show _ ≤ s + 1 + 1 + 1 + 1; omega) (by show s + 1 + 1 + 1 + 1 ≠ Bx; omega) (.bool c)
  exact ⟨a1, a2, a3, a4, h.aa.set_other (by show s + 1 + 1 + 1 + 1 ≠ _; omega) _, h.kk.set_other (by show s + 1 + 1 + 1 + 1 ≠ _; omega) _, h.bb.set (i := 0) (.bool c), ho⟩
theorem MvS.drew (h : MvS s Bx X Y A K b V W) : MvS s Bx X Y A K b V W.drew := ⟨⟨h.ko.size, h.ko.same⟩, h.be.drew, h.xx, h.yy, h.aa, h.kk, h.bb, h.ord⟩
theorem MvS.sel (h : MvS s Bx #[p0, p1, p2, p3] (some #[q0, q1]) A K b V W) : (W.cell? ⟨s, 0, none⟩ = some p0 ∧ W.cell? ⟨s, 1, none⟩ = some p1 ∧ W.cell? ⟨s, 2, none⟩ = some p2 ∧ W.cell? ⟨s, 3, none⟩ = some p3) ∧ (W.cell? ⟨Bx, 0, none⟩ = some q0 ∧ W.cell? ⟨Bx, 1, none⟩ = some q1) := ⟨h.xx.four', (h.yy _ rfl).two'⟩
theorem MvS.writ (h : MvS s Bx X Y #[v0, v1, v2, v3] #[k0, k1] b V W) : (W.cell? ⟨s + 1 + 1, 0, none⟩ = some v0 ∧ W.cell? ⟨s + 1 + 1, 1, none⟩ = some v1 ∧ W.cell? ⟨s + 1 + 1, 2, none⟩ = some v2 ∧ W.cell? ⟨s + 1 + 1, 3, none⟩ = some v3) ∧
    (W.frozen? ⟨s + 1 + 1, 0, none⟩ = false ∧ W.frozen? ⟨s + 1 + 1, 1, none⟩ = false ∧ W.frozen? ⟨s + 1 + 1, 2, none⟩ = false ∧ W.frozen? ⟨s + 1 + 1, 3, none⟩ = false) ∧
    (W.cell? ⟨s + 1 + 1 + 1, 0, none⟩ = some k0 ∧ W.cell? ⟨s + 1 + 1 + 1, 1, none⟩ = some k1) ∧ (W.frozen? ⟨s + 1 + 1 + 1, 0, none⟩ = false ∧ W.frozen? ⟨s + 1 + 1 + 1, 1, none⟩ = false) ∧
    W.cell? ⟨s + 1 + 1 + 1 + 1, 0, none⟩ = some (.bool b) ∧ W.frozen? ⟨s + 1 + 1 + 1 + 1, 0, none⟩ = false ∧ s + 1 + 1 < W.heap.size ∧ s + 1 + 1 + 1 < W.heap.size ∧ s + 1 + 1 + 1 + 1 < W.heap.size :=
  ⟨h.aa.four', h.aa.froz4, h.kk.two', h.kk.froz2, h.bb.cell 0 _ rfl, h.bb.frozen 0, h.aa.lt, h.kk.lt, h.bb.lt⟩
theorem own8 {v : Value} {L : List KV} (h : Hid (elKV.Owns (s + 1 + 1 + 1 + 1 + 1) W v L)) (x0 x1 x2 x3 : Value) : Hid (elKV.Owns (s + 1 + 1 + 1 + 1 + 1) ((((W.setCell ⟨s + 1 + 1, 0, none⟩ x0).setCell ⟨s + 1 + 1, 1, none⟩ x1).setCell ⟨s + 1 + 1, 2, none⟩ x2).setCell ⟨s + 1 + 1, 3, none⟩ x3) v L) := by
  have hp : s + 1 + 1 < s + 1 + 1 + 1 + 1 + 1 := by omega
  exact hide ((((h.out.set_other hp _).set_other hp _).set_other hp _).set_other hp _)
theorem own9 {v : Value} {L : List KV} (h : Hid (elKV.Owns (s + 1 + 1 + 1 + 1 + 1) W v L)) (x0 x1 : Value) : Hid (elKV.Owns (s + 1 + 1 + 1 + 1 + 1) ((W.setCell ⟨s + 1 + 1 + 1, 0, none⟩ x0).setCell ⟨s + 1 + 1 + 1, 1, none⟩ x1) v L) := by
  have hp : s + 1 + 1 + 1 < s + 1 + 1 + 1 + 1 + 1 := by omega
  exact hide ((h.out.set_other hp _).set_other hp _)
theorem own10 {v : Value} {L : List KV} (h : Hid (elKV.Owns (s + 1 + 1 + 1 + 1 + 1) W v L)) (c : Value) : Hid (elKV.Owns (s + 1 + 1 + 1 + 1 + 1) (W.setCell ⟨s + 1 + 1 + 1 + 1, 0, none⟩ c) v L) := by
  have hp : s + 1 + 1 + 1 + 1 < s + 1 + 1 + 1 + 1 + 1 := by omega
  exact hide (h.out.set_other hp _)
end

/-- a box stays where only blocks that are no cells turn -/
theorem boxV_own {β : Type} {T : TypeId} (g : Nat) (f : β → Array Value) : Own (fun (s : β) W => BoxV T W g (f s)) := fun _ X _ _ hs hg hr =>
  (hg.block g hs.lt (fun e => by obtain ⟨o, ho, hc⟩ := hr g e.symm; rw [show X.heap[g]? = _ from hs] at ho; cases ho; cases hc)).trans hs
theorem owns_own {β : Type} (B : Nat) (v : Value) (L : List KV) : Own (fun (_ : β) W => elKV.Owns B W v L) := fun _ X _ _ hs hg hr =>
  rowKeepX hs fun k e => hg.block k (hs.lt k e).2 (fun e2 => by
    obtain ⟨o, ho, hc⟩ := hr k e2.symm
    obtain ⟨_, ⟨rfl, _⟩ | ⟨g, cap, cur, rfl, _, hh, _⟩⟩ := id hs
    · cases e
    · injection e with e
      subst e
      rw [hh] at ho
      cases ho
      cases hc)
/-- how a round may be left for good: at the last element, the answer lying there -/
def MvX (w : World) (L : List KV) (f t g : ByteArray) (c : Code) (pre : List PlE) (V : World) : Prop :=
  (c = .ret ∧ (∃ ini last, pre = ini ++ [last] ∧ (∀ p ∈ ini, ¬ withinK p.2.1 g t) ∧ withinK last.2.1 g t ∧
      ∃ v, BoxV 56 V (w.heap.size + 1 + 1) (itBox v (L, f, t, (last.1 : Int))) ∧ BoxV 41 V (w.heap.size + 1 + 1 + 1) #[.string last.2.1, .string last.2.2] ∧ elKV.Owns (w.heap.size + 1 + 1 + 1 + 1 + 1) V v L) ∧
      BoxV 4 V (w.heap.size + 1 + 1 + 1 + 1) #[.bool true]) ∧ Below w.heap.size w V
theorem MvX.own {B : Nat} {w : World} {L : List KV} {f t g : ByteArray} {c : Code} (hB : w.heap.size ≤ B) : OwnFrom B (MvX w L f t g c) :=
  OwnFrom.and (fun s X Y row hs hg hr => by
      obtain ⟨h1, ⟨ini, last, h2, h3, h4, v, h5, h6, h7⟩, h8⟩ := hs
      have hr2 := fun r e => (hr r e).2
      exact ⟨h1, ⟨ini, last, h2, h3, h4, v, boxV_own (β := Unit) _ (fun _ => itBox v (L, f, t, (last.1 : Int))) () X Y row h5 hg hr2, boxV_own (β := Unit) _ (fun _ => #[.string last.2.1, .string last.2.2]) () X Y row h6 hg hr2, owns_own (β := Unit) _ v L () X Y row h7 hg hr2⟩, boxV_own (β := Unit) _ (fun _ => #[.bool true]) () X Y row h8 hg hr2⟩) (ownFrom_below (Nat.le_refl _) hB)
/-- the five blocks that a move makes -/
theorem move_boxes (w : World) (v0 v1 v2 v3 u : Value) : ∃ W, W = ((((w.alloc (.cells #[v0, v1, v2, v3] 56)).alloc (.cells #[u] 9)).alloc (.cells #[.slice none 0 0, .string ⟨#[]⟩, .string ⟨#[]⟩, .int .i64 0] 56)).alloc (.cells #[.string ⟨#[]⟩, .string ⟨#[]⟩] 41)).alloc (.cells #[.bool false] 4) ∧
    Below w.heap.size w W ∧ W.heap.size = w.heap.size + 1 + 1 + 1 + 1 + 1 ∧ BoxV 56 W w.heap.size #[v0, v1, v2, v3] ∧ BoxV 9 W (w.heap.size + 1) #[u] ∧
    BoxV 56 W (w.heap.size + 1 + 1) #[.slice none 0 0, .string ⟨#[]⟩, .string ⟨#[]⟩, .int .i64 0] ∧ BoxV 41 W (w.heap.size + 1 + 1 + 1) #[.string ⟨#[]⟩, .string ⟨#[]⟩] ∧ BoxV 4 W (w.heap.size + 1 + 1 + 1 + 1) #[.bool false] := by
  refine ⟨_, rfl, (((((Below.refl _ _).alloc (Nat.le_refl _) _).alloc (by simp) _).alloc (by simp <;> omega) _).alloc (by simp <;> omega) _).alloc (by simp <;> omega) _, by simp, ((((BoxV.new _ w _).alloc _).alloc _).alloc _).alloc _, ?_, ?_, ?_, ?_⟩
  · have := ((((BoxV.new 9 (w.alloc (.cells #[v0, v1, v2, v3] 56)) #[u]).alloc (.cells #[.slice none 0 0, .string ⟨#[]⟩, .string ⟨#[]⟩, .int .i64 0] 56)).alloc (.cells #[.string ⟨#[]⟩, .string ⟨#[]⟩] 41)).alloc (.cells #[.bool false] 4))
    simp only [Go.Deep.nblk_alloc] at this
    exact this
  · have := (((BoxV.new 56 ((w.alloc (.cells #[v0, v1, v2, v3] 56)).alloc (.cells #[u] 9)) #[.slice none 0 0, .string ⟨#[]⟩, .string ⟨#[]⟩, .int .i64 0]).alloc (.cells #[.string ⟨#[]⟩, .string ⟨#[]⟩] 41)).alloc (.cells #[.bool false] 4))
    simp only [Go.Deep.nblk_alloc] at this
    exact this
  · have := ((BoxV.new 41 (((w.alloc (.cells #[v0, v1, v2, v3] 56)).alloc (.cells #[u] 9)).alloc (.cells #[.slice none 0 0, .string ⟨#[]⟩, .string ⟨#[]⟩, .int .i64 0] 56)) #[.string ⟨#[]⟩, .string ⟨#[]⟩]).alloc (.cells #[.bool false] 4))
    simp only [Go.Deep.nblk_alloc] at this
    exact this
  · have := BoxV.new 4 ((((w.alloc (.cells #[v0, v1, v2, v3] 56)).alloc (.cells #[u] 9)).alloc (.cells #[.slice none 0 0, .string ⟨#[]⟩, .string ⟨#[]⟩, .int .i64 0] 56)).alloc (.cells #[.string ⟨#[]⟩, .string ⟨#[]⟩] 41)) #[.bool false]
    simp only [Go.Deep.nblk_alloc] at this
    exact this

set_option maxRecDepth 100000 in
set_option maxHeartbeats 4000000 in
theorem move_any (B : Nat) (a : Option Addr) (cap : Nat) (L : List KV) (f t : ByteArray) (i : Int) (g : ByteArray) (z : Int) (gf : Nat) (lb : Array Value) (fF : Nat → PlE) (N : Nat) (R : ItE × KV × Bool) (w : World) (hO : elKV.Owns B w (.slice a L.length cap) L) (hl : L.length ≤ 2097152)
    (eg : ∀ args w, (callFunc gf args).run Try.prog w = .ok (.enter gf args) w)
    (hseq : ∀ w3, Below w.heap.size w w3 → SeqStopsK Fence.wide (6 - 1) Try.prog gf lb encPl (Below w3.heap.size) (fun ys => ys = uptoX fF N) (fun pre => ∃ k, k ≤ N ∧ pre = uptoX fF k) N w3)
    (hk : itOk (L, f, t, i))
    (hR1 : ∀ k, k < N → (∀ j, j < k → ¬ withinK (fF j).2.1 g t) → withinK (fF k).2.1 g t → R = ((L, f, t, ((fF k).1 : Int)), (fF k).2, true))
    (hR0 : (∀ j, j < N → ¬ withinK (fF j).2.1 g t) → R = ((L, f, t, z), (⟨#[]⟩, ⟨#[]⟩), false)) :
    Calls Try.prog 79 #[itV (.slice a L.length cap) (L, f, t, i), .func (.func gf) #[] lb, .string g, .int .i64 z] w (MovPost w R) := by
  have HO := hide hO
  have HR1 := hide hR1
  have HR0 := hide hR0
  have HSEQ := hide hseq
  have HOK := hide (fun W (h : elKV.Owns B W (.slice a L.length cap) L) => iIterOk_any a cap (L, f, t, i) W (owns_rdK h) hl)
  have HMV := hide (fun (p : Int) W (h : Below w.heap.size w W) => moved_any B a cap L f t i p W (HO.out.below h (Nat.le_refl _)) hl)
  unfold ItPost at HMV
  dsimp only at HOK HMV
  rw [decide_eq_true hk] at HOK
  obtain ⟨n, hn⟩ : ∃ n, n = L.length := ⟨_, rfl⟩
  have HN := hide hn.symm
  rw [← hn] at hl HO HOK HMV ⊢
  clear hO hn hk hR1 hR0 hseq
  refine (callsIn_wide (n := 6)).1 ?_
  refine callsIn_of_wp_marks Try.func79 rfl trivial ?_ rfl
  simp only [Try.ntmps79, List.size_toArray, List.length_cons, List.length_nil, Nat.reduceAdd, Nat.reduceSub, Array.replicate_succ, Array.replicate_zero, List.push_toArray, List.append_toArray, List.nil_append, List.cons_append]
  obtain ⟨W, hW, hWb, hWs, hX, hG, hA, hK, hD⟩ := move_boxes w (.slice a n cap) (.string f) (.string t) (.int .i64 i) (.string g)
  obtain ⟨c0, c1, c2, c3⟩ := hX.four'
  have HX := hide hX
  have HG := hide hG
  have HA := hide hA
  have HK := hide hK
  have HD := hide hD
  have HB := hide hWb
  have HOW := hide (show elKV.Owns B W _ L from hW ▸ ((((HO.out.alloc _).alloc _).alloc _).alloc _).alloc _)
  gi_wp2
  rw [← hW]
  clear hW hX hG hA hK hD hWb HO c0 c1 c2 c3
  refine ⟨trivial, (callsIn_wide.2 (HOK.out _ HOW.out)).mono ?_⟩
  rintro e w3 ⟨rfl, hb3⟩
  have HX3 := hide (HX.out.below hb3 HX.out.lt)
  have HG3 := hide (HG.out.below hb3 HG.out.lt)
  have HA3 := hide (HA.out.below hb3 HA.out.lt)
  have HK3 := hide (HK.out.below hb3 HK.out.lt)
  have HD3 := hide (HD.out.below hb3 HD.out.lt)
  have HB3 := hide (HB.out.trans (hb3.mono HB.out.size))
  have HO3 := hide (HOW.out.below hb3 (Nat.le_refl _))
  have hw3 : w.heap.size + 1 + 1 + 1 + 1 + 1 ≤ w3.heap.size := by rw [← hWs]; exact hb3.size
  have hww : w.heap.size ≤ w3.heap.size := by omega
  clear hb3 hWs HX HG HA HK HD HB HOW HOK
  gi_wp2
  refine wpIn_rangeFunc_ownH rfl (by omega) (gf := gf) (lb := lb) rfl trivial eg
    (HSEQ.out w3 HB3.out) belowK_t (belowK_b (Nat.le_refl _)) (Below.refl _ _) (fun _ => rfl)
    (fun pre V => (∀ p ∈ pre, ¬ withinK p.2.1 g t) ∧ Below w3.heap.size w3 V)
    (MvX w L f t g)
    (OwnFrom.and (ownFrom_pure _ _) (ownFrom_below (Nat.le_refl _) (Nat.le_refl _)))
    (fun c => MvX.own hww)
    ⟨by simp, Below.refl _ _⟩
    (fun y a'' V => ∃ Bx, w.heap.size + 1 + 1 + 1 + 1 < Bx ∧ BoxV 41 V Bx #[.string y.2.1, .string y.2.2] ∧ a'' = { tmps := #[.agg #[.slice a n cap, .string f, .string t, .int .i64 i], .func (.func gf) #[] lb, .string g, .int .i64 z, .pointer (some ⟨w.heap.size, 0, none⟩), undef, .pointer (some ⟨w.heap.size + 1, 0, none⟩), undef, .pointer (some ⟨w.heap.size + 1 + 1, 0, none⟩), .pointer (some ⟨w.heap.size + 1 + 1 + 1, 0, none⟩), .pointer (some ⟨w.heap.size + 1 + 1 + 1 + 1, 0, none⟩), .int .i64 (y.1 : Int), .pointer (some ⟨Bx, 0, none⟩),
        .agg #[.slice a n cap, .string f, .string t, .int .i64 i], .bool true, .bool false, undef, undef, .func (.func gf) #[] lb, .int .i64 (y.1 : Int), .agg #[.string y.2.1, .string y.2.2], undef, undef, undef, undef, undef, undef, undef, undef, undef, undef, undef, undef, undef, undef], defers := [] })
    (fun y a'' _ X Y row hs hg hr => by obtain ⟨Bx, h1, h2, h3⟩ := hs; exact ⟨Bx, h1, boxV_own (β := Unit) Bx (fun _ => #[.string y.2.1, .string y.2.2]) () X Y row h2 hg (fun r e => (hr r e).2), h3⟩)
    ?assign ?body ?done ?stop
  case assign =>
    rintro l pre y V K ⟨hp, hB⟩ hK
    have hs := hB.size
    gi_wp2
    exact hK _ _ ((KeepsOthers.alloc _ _).from _) ((Below.refl _ V).alloc hs _) ⟨hp, hB.alloc hs _⟩ ⟨V.heap.size, by omega, BoxV.new _ V _, rfl⟩
  case body =>
    rintro l pre y a'' V hl2 ⟨r, hr⟩ ⟨hp, hB⟩ ⟨Bx, hBx, bP, rfl⟩ hlt
    obtain ⟨yp, yk, yv⟩ := y
    dsimp only at bP ⊢
    have HBV := hide (HB3.out.trans (hB.mono hww))
    have HOV := hide (HO3.out.below hB (Nat.le_refl _))
    have HM0 := hide (show MvS w.heap.size Bx #[.slice a n cap, .string f, .string t, .int .i64 i] (some #[.string yk, .string yv]) #[.slice none 0 0, .string ⟨#[]⟩, .string ⟨#[]⟩, .int .i64 0] #[.string ⟨#[]⟩, .string ⟨#[]⟩] false V V from ⟨KeepsOthers.refl _, Below.refl _ _, HX3.out.below hB HX3.out.lt, fun vs e => by cases e; exact bP, HA3.out.below hB HA3.out.lt, HK3.out.below hB HK3.out.lt, HD3.out.below hB HD3.out.lt, hBx⟩)
    have cG := (HG3.out.below hB HG3.out.lt).cell 0 _ rfl
    obtain ⟨⟨c0, c1, c2, c3⟩, ⟨q0, q1⟩⟩ := HM0.out.sel
    by_cases hy : withinK yk g t
    · have HWI := fun W => within_any yk g t W
      rw [decide_eq_true hy] at HWI
      gi_wp2
      refine ⟨trivial, (callsIn_wide.2 (HWI _)).mono ?_⟩
      rintro e w5 ⟨rfl, rfl⟩
      gi_wp2
      have HM1 := hide HM0.out.drew
      have FIN : ∀ (W : World) (a9 : Option Addr) (c9 : Nat), Hid (MvS w.heap.size Bx #[.slice a n cap, .string f, .string t, .int .i64 i] (some #[.string yk, .string yv]) #[.slice a9 n c9, .string f, .string t, .int .i64 (yp : Int)] #[.string yk, .string yv] true w5 W) → Hid (elKV.Owns (w.heap.size + 1 + 1 + 1 + 1 + 1) W (.slice a9 n c9) L) →
          (KeepsFrom w3.heap.size w5 W ∧ MvX w L f t g .ret (pre ++ [(yp, yk, yv)]) W) := fun W a9 c9 hm ho =>
        ⟨hm.out.ko.from _, ⟨rfl, ⟨pre, _, rfl, hp, hy, _, hm.out.aa, hm.out.kk, ho.out⟩, hm.out.bb⟩, HBV.out.trans hm.out.be⟩
      have HFIN := hide FIN
      clear FIN c0 c1 c2 c3 q0 q1 HWI cG
      obtain ⟨⟨a0, a1, a2, a3⟩, ⟨b0, b1, b2, b3⟩, ⟨k0, k1⟩, ⟨l0, l1⟩, e0, e1, h1, h2, h3⟩ := HM0.out.writ
      refine region_round (S := fun w' => (w'.cell? ⟨w.heap.size, 0, none⟩ = some (.slice a n cap) ∧ w'.cell? ⟨w.heap.size, 1, none⟩ = some (.string f) ∧ w'.cell? ⟨w.heap.size, 2, none⟩ = some (.string t) ∧ w'.cell? ⟨w.heap.size, 3, none⟩ = some (.int .i64 i)) ∧ (w'.cell? ⟨Bx, 0, none⟩ = some (.string yk) ∧ w'.cell? ⟨Bx, 1, none⟩ = some (.string yv))) (by kernel_rfl) (by kernel_rfl) (fun ⟨_, _, h⟩ => h) HM1.out.sel (fun hHeld => ?_)
      refine wpAnyH_take (i := 0) (v := ?_) rfl (by kernel_rfl) (by kernel_rfl) (by kernel_rfl) (fun _ _ _ h => h) (Or.inl ⟨by rfl, ?_⟩) (by assumption) ?_
      rotate_left 1
      · intro w hSw
        (try dsimp only at hSw)
        go_simp
        try with_reducible rfl
      go_simp
      refine wpAnyH_take (i := 1) (v := ?_) rfl (by kernel_rfl) (by kernel_rfl) (by kernel_rfl) (fun _ _ _ h => h) (Or.inl ⟨by rfl, ?_⟩) (by assumption) ?_
      rotate_left 1
      · intro w hSw
        (try dsimp only at hSw)
        go_simp
        try with_reducible rfl
      go_simp
      refine wpAnyH_take (i := 3) (v := ?_) rfl (by kernel_rfl) (by kernel_rfl) (by kernel_rfl) (fun _ _ _ h => h) (Or.inl ⟨by rfl, ?_⟩) (by assumption) ?_
      rotate_left 1
      · intro w hSw
        (try dsimp only at hSw)
        go_simp
        try with_reducible rfl
      go_simp
      refine wpAnyH_ready (rs := [2]) (by kernel_rfl) (by simp) ?_
      refine AllReadyH.cons rfl (fun K hK => ?_) AllReadyH.nil
      go_simp
      go_at_call 97
      refine (HMV.out _ _ (HBV.out.trans (HM1).out.be)).mono ?_
      rintro e w9 ⟨v9, rfl, ho9, hb9⟩
      obtain ⟨a9, c9, rfl, _⟩ := ho9.form
      rw [HN.out]
      rw [HN.out] at ho9
      have HM9 := hide ((HM1).out.call hb9)
      have HO9 := hide (El.Owns.mono (B' := w.heap.size + 1 + 1 + 1 + 1 + 1) ho9 (HM1).out.low)
      obtain ⟨⟨a0, a1, a2, a3⟩, ⟨b0, b1, b2, b3⟩, ⟨k0, k1⟩, ⟨l0, l1⟩, e0, e1, h1, h2, h3⟩ := HM9.out.writ
      clear ho9 hb9 HMV
      refine hK.out _ _ HM9.out.sel (fun hHeld => ?_)
      clear hK K
      go_simp
      refine wpAnyH_ready (rs := [4]) (by kernel_rfl) (by simp) ?_
      refine AllReadyH.cons rfl (fun K hK => ?_) AllReadyH.nil
      go_simp
      refine hK.out _ _ ((hide ((HM9).out.s8 (.slice a9 n c9) (.string f) (.string t) (.int .i64 (yp : Int))))).out.sel (fun hHeld => ?_)
      clear hK K
      go_simp
      have HO9 := own8 HO9 (.slice a9 n c9) (.string f) (.string t) (.int .i64 (yp : Int))
      refine wpAnyH_ready (rs := [5]) (by kernel_rfl) (by simp) ?_
      refine AllReadyH.cons rfl (fun K hK => ?_) AllReadyH.nil
      go_simp
      refine hK.out _ _ ((hide (((hide ((HM9).out.s8 (.slice a9 n c9) (.string f) (.string t) (.int .i64 (yp : Int))))).out.s9 (.string yk) (.string yv)))).out.sel (fun hHeld => ?_)
      clear hK K
      go_simp
      have HO9 := own9 HO9 (.string yk) (.string yv)
      refine wpAnyH_ready (rs := [6]) (by kernel_rfl) (by simp) ?_
      refine AllReadyH.cons rfl (fun K hK => ?_) AllReadyH.nil
      go_simp
      refine hK.out _ _ ((hide (((hide (((hide ((HM9).out.s8 (.slice a9 n c9) (.string f) (.string t) (.int .i64 (yp : Int))))).out.s9 (.string yk) (.string yv)))).out.s10 true))).out.sel (fun hHeld => ?_)
      clear hK K
      go_simp
      have HO9 := own10 HO9 (.bool true)
      refine wpAnyH_done (by kernel_rfl) ?_ _
      gi_wp2
      exact HFIN.out _ a9 c9 (hide (((hide (((hide ((HM9).out.s8 (.slice a9 n c9) (.string f) (.string t) (.int .i64 (yp : Int))))).out.s9 (.string yk) (.string yv)))).out.s10 true)) HO9
    · have HWI := fun W => within_any yk g t W
      rw [decide_eq_false hy] at HWI
      gi_wp2
      refine ⟨trivial, (callsIn_wide.2 (HWI _)).mono ?_⟩
      rintro e w5 ⟨rfl, rfl⟩
      gi_wp2
      exact ⟨KeepsFrom.refl _ _, Below.refl _ _, fun p hp' => (List.mem_append.1 hp').elim (hp p) (fun e => by simp at e; subst e; exact hy), hB⟩
  case done =>
    rintro D ys V hD rfl ⟨hp, hB⟩ hK
    have HBV := hide (HB3.out.trans (hB.mono hww))
    have HM0 := hide (show MvS w.heap.size (w.heap.size + 1 + 1 + 1 + 1 + 1) #[.slice a n cap, .string f, .string t, .int .i64 i] none #[.slice none 0 0, .string ⟨#[]⟩, .string ⟨#[]⟩, .int .i64 0] #[.string ⟨#[]⟩, .string ⟨#[]⟩] false V V from ⟨KeepsOthers.refl _, Below.refl _ _, HX3.out.below hB HX3.out.lt, (fun vs e => by cases e), HA3.out.below hB HA3.out.lt, HK3.out.below hB HK3.out.lt, HD3.out.below hB HD3.out.lt, Nat.lt_succ_self _⟩)
    obtain ⟨c0, c1, c2, c3⟩ := HM0.out.xx.four'
    have HR := hide (HR0.out (fun j hj => hp (fF j) (mem_uptoX.2 ⟨j, hj, rfl⟩)))
    have HK := hide hK
    clear hK hp
    gi_wp2
    refine ⟨trivial, (callsIn_wide.2 (HMV.out z _ HBV.out)).mono ?_⟩
    rintro e w9 ⟨v9, rfl, ho9, hb9⟩
    obtain ⟨a9, c9, rfl, _⟩ := ho9.form
    rw [HN.out]
    rw [HN.out] at ho9
    have HM9 := hide (HM0.out.call hb9)
    have HO9 := hide (El.Owns.mono (B' := w.heap.size + 1 + 1 + 1 + 1 + 1) ho9 HM0.out.low)
    obtain ⟨⟨a0, a1, a2, a3⟩, ⟨b0, b1, b2, b3⟩, ⟨k0, k1⟩, ⟨l0, l1⟩, e0, e1, h1, h2, h3⟩ := HM9.out.writ
    clear ho9 hb9 c0 c1 c2 c3 HMV
    gi_wp2
    have HMZ := hide (((HM9.out.s8 (.slice a9 n c9) (.string f) (.string t) (.int .i64 z)).s9 (.string ⟨#[]⟩) (.string ⟨#[]⟩)).s10 false)
    have HOZ := own10 (own9 (own8 HO9 (.slice a9 n c9) (.string f) (.string t) (.int .i64 z)) (.string ⟨#[]⟩) (.string ⟨#[]⟩)) (.bool false)
    clear a0 a1 a2 a3 b0 b1 b2 b3 k0 k1 l0 l1 e0 e1 HM9 HO9
    generalize World.setCell _ _ _ = Z at HMZ HOZ ⊢
    have hKZ := HMZ.out.ko.same D _ HK.out rfl
    have hown : ∀ r, some D = some r → ∃ o : Obj, Z.heap[r]? = some o ∧ o.isCells = false := fun r e => by cases e; exact ⟨_, hKZ, rfl⟩
    refine ⟨by simp, .inl ⟨_, _, rfl, run_takeDeferred hKZ, ?_⟩⟩
    refine ⟨_, res_movb rfl _ _ (w.heap.size + 1 + 1) (w.heap.size + 1 + 1 + 1) (w.heap.size + 1 + 1 + 1 + 1) rfl rfl rfl (boxV_own (β := Unit) _ (fun _ => #[.slice a9 n c9, .string f, .string t, .int .i64 z]) () Z _ (some D) HMZ.out.aa (grownBy_putObj' Z D _) hown) (boxV_own (β := Unit) _ (fun _ => #[.string ⟨#[]⟩, .string ⟨#[]⟩]) () Z _ (some D) HMZ.out.kk (grownBy_putObj' Z D _) hown) ((boxV_own (β := Unit) _ (fun _ => #[.bool false]) () Z _ (some D) HMZ.out.bb (grownBy_putObj' Z D _) hown).cell 0 _ rfl), ?_⟩
    rw [HR.out]
    refine ⟨.slice a9 n c9, rfl, El.Owns.mono (owns_own (β := Unit) _ _ L () Z _ (some D) HOZ.out (grownBy_putObj' Z D _) hown) (by omega), (HBV.out.trans HMZ.out.be).trans (belowK_b (w := w) (Nat.le_refl _) Z D _ _ (by omega) hKZ rfl rfl)⟩
  case stop =>
    rintro D c pre V hD ⟨k, hk, rfl⟩ ⟨⟨rfl, ⟨ini, last, e1, e2, e3, v, hA, hK', hO'⟩, hD'⟩, hB⟩ hK
    obtain ⟨k', rfl⟩ : ∃ k', k = k' + 1 := by
      cases k with
      | zero => simp [uptoX] at e1
      | succ k' => exact ⟨k', rfl⟩
    rw [uptoX_succ] at e1
    obtain ⟨rfl, e5⟩ := List.append_inj' e1 rfl
    obtain rfl : fF k' = last := by simpa using e5
    have HR := hide (HR1.out k' (by omega) (fun j hj => e2 (fF j) (mem_uptoX.2 ⟨j, hj, rfl⟩)) e3)
    have HA' := hide hA
    have HK' := hide hK'
    have HD' := hide hD'
    have HO' := hide hO'
    clear hA hK' hD' hO' e1 e2 e3 e5
    gi_wp2
    have hown : ∀ r, some D = some r → ∃ o : Obj, V.heap[r]? = some o ∧ o.isCells = false := fun r e => by cases e; exact ⟨_, hK, rfl⟩
    refine ⟨by simp, .inl ⟨_, _, rfl, run_takeDeferred hK, ?_⟩⟩
    refine ⟨_, res_movb rfl _ _ (w.heap.size + 1 + 1) (w.heap.size + 1 + 1 + 1) (w.heap.size + 1 + 1 + 1 + 1) rfl rfl rfl (boxV_own (β := Unit) _ (fun _ => itBox v (L, f, t, ((fF k').1 : Int))) () V _ (some D) HA'.out (grownBy_putObj' V D _) hown) (boxV_own (β := Unit) _ (fun _ => #[.string (fF k').2.1, .string (fF k').2.2]) () V _ (some D) HK'.out (grownBy_putObj' V D _) hown) ((boxV_own (β := Unit) _ (fun _ => #[.bool true]) () V _ (some D) HD'.out (grownBy_putObj' V D _) hown).cell 0 _ rfl), ?_⟩
    rw [HR.out]
    refine ⟨v, rfl, El.Owns.mono (owns_own (β := Unit) _ _ L () V _ (some D) HO'.out (grownBy_putObj' V D _) hown) (by omega), hB.trans (belowK_b (w := w) (Nat.le_refl _) V D _ _ (by omega) hK rfl rfl)⟩

set_option maxRecDepth 100000 in
set_option maxHeartbeats 4000000 in
theorem move_bad (B : Nat) (a : Option Addr) (cap : Nat) (L : List KV) (f t : ByteArray) (i : Int) (g : ByteArray) (z : Int) (F : Value) (w : World) (hO : elKV.Owns B w (.slice a L.length cap) L) (hl : L.length ≤ 2097152) (hk : ¬ itOk (L, f, t, i)) :
    Calls Try.prog 79 #[itV (.slice a L.length cap) (L, f, t, i), F, .string g, .int .i64 z] w (MovPost w noV) := by
  have HO := hide hO
  have HOK := hide (fun W (h : elKV.Owns B W (.slice a L.length cap) L) => iIterOk_any a cap (L, f, t, i) W (owns_rdK h) hl)
  dsimp only at HOK
  rw [decide_eq_false hk] at HOK
  obtain ⟨n, hn⟩ : ∃ n, n = L.length := ⟨_, rfl⟩
  rw [← hn] at hl HO HOK ⊢
  clear hO hn hk
  obtain ⟨W, hW, hWb, hWs, hX, hG, hA, hK, hD⟩ := move_boxes w (.slice a n cap) (.string f) (.string t) (.int .i64 i) (.string g)
  obtain ⟨c0, c1, c2, c3⟩ := hX.four'
  have HM0 := hide (show MvS w.heap.size (w.heap.size + 1 + 1 + 1 + 1 + 1) #[.slice a n cap, .string f, .string t, .int .i64 i] none #[.slice none 0 0, .string ⟨#[]⟩, .string ⟨#[]⟩, .int .i64 0] #[.string ⟨#[]⟩, .string ⟨#[]⟩] false W W from ⟨KeepsOthers.refl _, Below.refl _ _, hX, (fun vs e => by cases e), hA, hK, hD, Nat.lt_succ_self _⟩)
  have HB := hide hWb
  have HOW := hide (show elKV.Owns B W _ L from hW ▸ ((((HO.out.alloc _).alloc _).alloc _).alloc _).alloc _)
  go_enter Try.func79, Try.ntmps79
  go_wp2_with fail
  rw [← hW]
  clear hW hX hG hA hK hD hWb HO c0 c1 c2 c3 hWs
  refine (HOK.out _ HOW.out).mono ?_
  rintro e w9 ⟨rfl, hb9⟩
  have HM9 := hide (HM0.out.call hb9)
  obtain ⟨⟨a0, a1, a2, a3⟩, ⟨b0, b1, b2, b3⟩, ⟨k0, k1⟩, ⟨l0, l1⟩, e0, e1, h1, h2, h3⟩ := HM9.out.writ
  obtain ⟨c0, c1, c2, c3⟩ := HM9.out.xx.four'
  clear hb9 HOW HOK
  go_wp2_with fail
  have HMZ := hide (((HM9.out.s8 (.slice none 0 0) (.string ⟨#[]⟩) (.string ⟨#[]⟩) (.int .i64 0)).s9 (.string ⟨#[]⟩) (.string ⟨#[]⟩)).s10 false)
  clear a0 a1 a2 a3 b0 b1 b2 b3 k0 k1 l0 l1 e0 e1 HM9
  refine bodyPost_ret (res_movb rfl _ _ (w.heap.size + 1 + 1) (w.heap.size + 1 + 1 + 1) (w.heap.size + 1 + 1 + 1 + 1) rfl rfl rfl HMZ.out.aa HMZ.out.kk (HMZ.out.bb.cell 0 _ rfl)) rfl ?_
  exact ⟨_, rfl, El.Owns.nil _ _, HB.out.trans HMZ.out.be⟩
end Go.Proofs.Ytphfakdbgohhgaa

/-
  Contracts of impl.IterNext, IterPrev and IterSeek.
-/
namespace Go.Proofs.Ytphfakdbgohhgaa
open Go.ChangeShapes Go.WideShapes Go.ChangeAt Go.RowKit Go.Shelf

theorem upI_hit {x : ItE} {e : ByteArray} {p k : Nat} (hk : p + k < x.1.length) (hb : ∀ j (_ : j < k) (h : p + j < x.1.length), ¬ (withinK (x.1[p + j]'h).1 x.2.1 x.2.2.1 ∧ kless (x.1[p + j]'h).1 e = false)) (hw : withinK (x.1[p + k]'hk).1 x.2.1 x.2.2.1 ∧ kless (x.1[p + k]'hk).1 e = false) : upI x e p = p + k := by
  induction k generalizing p with
  | zero => exact upI_yes hk hw.1 hw.2
  | succ k ih =>
    have h1 := ih (p := p + 1) (by omega) (fun j hj h => by
      have := hb (j + 1) (by omega) (by omega)
      simp only [show p + (j + 1) = p + 1 + j by omega] at this
      exact this) (by
      simp only [show p + (k + 1) = p + 1 + k by omega] at hw
      exact hw)
    rw [upI_no (i := p) (by omega) (hb 0 (by omega) (by omega)), h1]
    omega
theorem upI_none {x : ItE} {e : ByteArray} {p : Nat} (hb : ∀ j (h : p + j < x.1.length), ¬ (withinK (x.1[p + j]'h).1 x.2.1 x.2.2.1 ∧ kless (x.1[p + j]'h).1 e = false)) : upI x e p = x.1.length := by
  obtain ⟨d, hd⟩ : ∃ d, d = x.1.length - p := ⟨_, rfl⟩
  induction d generalizing p with
  | zero => exact upI_end (by omega)
  | succ d ih =>
    rw [upI_no (i := p) (by omega) (hb 0 (by omega))]
    refine ih (p := p + 1) (fun j h => ?_) (by omega)
    simp only [show p + 1 + j = p + (j + 1) by omega]
    exact hb (j + 1) (by omega)
theorem dnI_hit {x : ItE} {c k : Nat} (hc : c ≤ x.1.length) (hk : k < c) (hb : ∀ j (_ : j < k) (h : c - 1 - j < x.1.length), ¬ withinK (x.1[c - 1 - j]'h).1 x.2.1 x.2.2.1) (hw : withinK (x.1[c - 1 - k]'(by omega)).1 x.2.1 x.2.2.1) : dnI x c = ((c - 1 - k : Nat) : Int) := by
  induction k generalizing c with
  | zero =>
    obtain ⟨c, rfl⟩ : ∃ c', c = c' + 1 := ⟨c - 1, by omega⟩
    exact dnI_yes (by omega) hw
  | succ k ih =>
    obtain ⟨c, rfl⟩ : ∃ c', c = c' + 1 := ⟨c - 1, by omega⟩
    have h1 := ih (c := c) (by omega) (by omega) (fun j hj h => by
      have := hb (j + 1) (by omega) (by omega)
      simp only [show c + 1 - 1 - (j + 1) = c - 1 - j by omega] at this
      exact this) (by
      simp only [show c + 1 - 1 - (k + 1) = c - 1 - k by omega] at hw
      exact hw)
    rw [dnI_no (n := c) (by omega) (hb 0 (by omega) (by omega)), h1, show c + 1 - 1 - (k + 1) = c - 1 - k by omega]
theorem dnI_none {x : ItE} {c : Nat} (hc : c ≤ x.1.length) (hb : ∀ j (_ : j < c), ¬ withinK (x.1[c - 1 - j]'(by omega)).1 x.2.1 x.2.2.1) : dnI x c = -1 := by
  induction c with
  | zero => exact dnI_zero x
  | succ c ih =>
    rw [dnI_no (n := c) (by omega) (hb 0 (by omega))]
    refine ih (by omega) (fun j hj => ?_)
    have := hb (j + 1) (by omega)
    simp only [show c + 1 - 1 - (j + 1) = c - 1 - j by omega] at this
    exact this
/-- the greater of two strings -/
def maxK (f g : ByteArray) : ByteArray := if kless f g then g else f
theorem within_max (k f g t : ByteArray) : withinK k (maxK f g) t ↔ withinK k f t ∧ kless k g = false := by
  unfold maxK withinK
  cases hfg : kless f g with
  | true =>
    rw [if_pos rfl]
    constructor
    · rintro ⟨h1, h2⟩
      refine ⟨⟨?_, h2⟩, h1⟩
      cases h3 : kless k f with
      | false => rfl
      | true =>
        rw [kless_trans h3 hfg] at h1
        cases h1
    · rintro ⟨⟨_, h2⟩, h3⟩
      exact ⟨h3, h2⟩
  | false =>
    rw [if_neg (by simp)]
    constructor
    · rintro ⟨h1, h2⟩
      refine ⟨⟨h1, h2⟩, ?_⟩
      cases h3 : kless k g with
      | false => rfl
      | true =>
        have h4 : k ≠ f := fun e => by rw [e, hfg] at h3; cases h3
        have h5 := kless_of_ne h1 h4
        rw [kless_trans h5 h3] at hfg
        cases hfg
    · rintro ⟨h, _⟩
      exact h

theorem fwd_move (B : Nat) (a : Option Addr) (cap : Nat) (L : List KV) (f t : ByteArray) (i : Int) (g e : ByteArray) (p Bs : Nat) (w : World) (hO : elKV.Owns B w (.slice a L.length cap) L) (hl : L.length ≤ 2097152) (hp : p ≤ L.length + 1) (hx : BoxV 108 w Bs #[.slice a L.length cap, .int .i64 ((p : Int) - 1)])
    (hge : ∀ k, withinK k g t ↔ withinK k f t ∧ kless k e = false) (hk : itOk (L, f, t, i)) :
    Calls Try.prog 79 #[itV (.slice a L.length cap) (L, f, t, i), .func (.func 98) #[] #[.pointer (some ⟨Bs, 0, none⟩)], .string g, .int .i64 (L.length : Int)] w (MovPost w (goV (L, f, t, i) (upI (L, f, t, i) e p : Nat))) := by
  refine move_any B a cap L f t i g _ _ _ (fwdX L p) (L.length - p) _ w hO hl (enters_of Try.func98 (by kernel_rfl) rfl) (fun w3 hb => after_stops Fence.wide (6 - 1) trivial rfl (by omega) Bs a cap p L hl hp w3 (Nat.lt_of_lt_of_le hx.lt hb.size) (hx.below hb hx.lt) (owns_rd (hO.below hb (Nat.le_refl _)))) hk (fun k hk2 hb hw => ?_) (fun hb => ?_)
  · have hkl : p + k < L.length := by omega
    dsimp only [fwdX] at hb hw ⊢
    rw [kvAt_of hkl] at hw ⊢
    rw [upI_hit (x := (L, f, t, i)) (e := e) (k := k) hkl (fun j hj h hh => hb j hj (by rw [kvAt_of h]; exact (hge _).2 hh)) ((hge _).1 hw)]
    exact goV_yes (x := (L, f, t, i)) hkl
  · rw [upI_none (x := (L, f, t, i)) (e := e) (fun j h hh => hb j (by have : p + j < L.length := h; omega) (by dsimp only [fwdX]; rw [kvAt_of h]; exact (hge _).2 hh))]
    exact goV_end (L, f, t, i)
theorem bwd_move (B : Nat) (a : Option Addr) (cap : Nat) (L : List KV) (f t : ByteArray) (i : Int) (Bs : Nat) (w : World) (hO : elKV.Owns B w (.slice a L.length cap) L) (hl : L.length ≤ 2097152) (hx : BoxV 108 w Bs #[.slice a L.length cap, .int .i64 i]) (hk : itOk (L, f, t, i)) :
    Calls Try.prog 79 #[itV (.slice a L.length cap) (L, f, t, i), .func (.func 99) #[] #[.pointer (some ⟨Bs, 0, none⟩)], .string f, .int .i64 (-1)] w (MovPost w (goV (L, f, t, i) (dnI (L, f, t, i) i.toNat))) := by
  obtain ⟨hk1, hk2⟩ : -1 ≤ i ∧ i ≤ (L.length : Int) := hk.2
  have hc : i.toNat ≤ L.length := by omega
  refine move_any B a cap L f t i f _ _ _ (bwdX L i.toNat) i.toNat _ w hO hl (enters_of Try.func99 (by kernel_rfl) rfl) (fun w3 hb => before_stops Fence.wide (6 - 1) trivial rfl (by omega) Bs a cap i L hl hk1 hk2 w3 (Nat.lt_of_lt_of_le hx.lt hb.size) (hx.below hb hx.lt) (owns_rd (hO.below hb (Nat.le_refl _)))) hk (fun k hk3 hb hw => ?_) (fun hb => ?_)
  · have hkl : i.toNat - 1 - k < L.length := by omega
    dsimp only [bwdX] at hb hw ⊢
    rw [kvAt_of hkl] at hw ⊢
    rw [dnI_hit (x := (L, f, t, i)) (k := k) hc hk3 (fun j hj h hh => hb j hj (by rw [kvAt_of h]; exact hh)) hw]
    exact goV_yes (x := (L, f, t, i)) hkl
  · rw [dnI_none (x := (L, f, t, i)) hc (fun j h hh => hb j h (by dsimp only [bwdX]; rw [kvAt_of (show i.toNat - 1 - j < L.length by omega)]; exact hh))]
    exact goV_ahead (L, f, t, i)

section
variable {T : TypeId} {s : Nat} {X : Array Value} {W : World}
theorem nx8 (h : BoxV T W s X) (x0 x1 x2 x3 : Value) : BoxV T ((((W.setCell ⟨s + 1, 0, none⟩ x0).setCell ⟨s + 1, 1, none⟩ x1).setCell ⟨s + 1, 2, none⟩ x2).setCell ⟨s + 1, 3, none⟩ x3) s X := by
  have n1 : s + 1 ≠ s := by omega
  exact (((h.set_other n1 _).set_other n1 _).set_other n1 _).set_other n1 _
theorem nx9 (h : BoxV T W s X) (x0 x1 : Value) : BoxV T ((W.setCell ⟨s + 1 + 1, 0, none⟩ x0).setCell ⟨s + 1 + 1, 1, none⟩ x1) s X := by
  have n1 : s + 1 + 1 ≠ s := by omega
  exact (h.set_other n1 _).set_other n1 _
end

set_option maxHeartbeats 2000000 in
set_option maxRecDepth 20000 in
theorem iIterNext_any (B : Nat) (a : Option Addr) (cap : Nat) (x : ItE) (w : World) (hO : elKV.Owns B w (.slice a x.1.length cap) x.1) (hl : x.1.length ≤ 2097152) :
    Calls Try.prog 43 #[itV (.slice a x.1.length cap) x] w (MovPost w (nextV x)) := by
  obtain ⟨L, f, t, i⟩ := x
  dsimp only at *
  have HO := hide hO
  have HMV := hide (show ∀ W Bs, elKV.Owns B W (.slice a L.length cap) L → BoxV 108 W Bs #[.slice a L.length cap, .int .i64 i] →
      Calls Try.prog 79 #[itV (.slice a L.length cap) (L, f, t, i), .func (.func 98) #[] #[.pointer (some ⟨Bs, 0, none⟩)], .string f, .int .i64 (L.length : Int)] W (MovPost W (nextV (L, f, t, i))) from fun W Bs h hx => by
    by_cases hk : itOk (L, f, t, i)
    · obtain ⟨hk1, hk2⟩ : -1 ≤ i ∧ i ≤ (L.length : Int) := hk.2
      have e : i = ((i + 1).toNat : Int) - 1 := by omega
      rw [nextV, if_pos hk]
      refine fwd_move B a cap L f t i f ⟨#[]⟩ (i + 1).toNat Bs W h hl (by omega) (by rw [← e]; exact hx) (fun k => ⟨fun h => ⟨h, kless_empty k⟩, fun h => h.1⟩) hk
    · rw [nextV, if_neg hk]
      exact move_bad B a cap L f t i f _ _ W h hl hk)
  obtain ⟨R, hR⟩ : ∃ R, R = nextV (L, f, t, i) := ⟨_, rfl⟩
  rw [← hR] at HMV ⊢
  obtain ⟨⟨M, x1, x2, x3⟩, ⟨y0, y1⟩, q⟩ := R
  unfold MovPost at HMV
  dsimp only at HMV
  obtain ⟨n, hn⟩ : ∃ n, n = L.length := ⟨_, rfl⟩
  rw [← hn] at hl HO HMV ⊢
  clear hO hR hn
  obtain ⟨W0, hW0⟩ : ∃ W0, W0 = ((w.alloc (.cells #[.slice a n cap, .string f, .string t, .int .i64 i] 56)).alloc (.cells #[.slice none 0 0, .string ⟨#[]⟩, .string ⟨#[]⟩, .int .i64 0] 56)).alloc (.cells #[.string ⟨#[]⟩, .string ⟨#[]⟩] 41) := ⟨_, rfl⟩
  have HX0 := hide (show BoxV 56 W0 w.heap.size #[.slice a n cap, .string f, .string t, .int .i64 i] from hW0 ▸ ((BoxV.new _ w _).alloc _).alloc _)
  obtain ⟨j1, j2, j3, j4⟩ : BoxV 56 W0 (w.heap.size + 1) #[.slice none 0 0, .string ⟨#[]⟩, .string ⟨#[]⟩, .int .i64 0] ∧ BoxV 41 W0 (w.heap.size + 1 + 1) #[.string ⟨#[]⟩, .string ⟨#[]⟩] ∧ Below w.heap.size w W0 ∧ W0.heap.size = w.heap.size + 1 + 1 + 1 := by
    obtain ⟨_, k2, k3, k4, _⟩ := three_boxV (w := w) (T := 56) (U := 56) (X := 41) (A := #[.slice a n cap, .string f, .string t, .int .i64 i]) (B := #[.slice none 0 0, .string ⟨#[]⟩, .string ⟨#[]⟩, .int .i64 0]) (C := #[.string ⟨#[]⟩, .string ⟨#[]⟩]) (Below.refl _ _)
    exact ⟨hW0 ▸ k2, hW0 ▸ k3, hW0 ▸ k4, by rw [hW0]; simp⟩
  have HY0 := hide j1
  have HZ0 := hide j2
  have HB0 := hide j3
  have HO0 := hide (show elKV.Owns B W0 (.slice a n cap) L from hW0 ▸ ((HO.out.alloc _).alloc _).alloc _)
  have g0 := HX0.out.four'
  clear j1 j2 j3 HO
  go_enter Try.func43, Try.ntmps43
  go_wp2_with fail
  rw [← hW0]
  obtain ⟨c0, c1, c2, c3⟩ := g0
  clear hW0
  go_region_held3 (fun w' => w'.cell? ⟨w.heap.size, 0, none⟩ = some (.slice a n cap) ∧ w'.cell? ⟨w.heap.size, 1, none⟩ = some (.string f) ∧ w'.cell? ⟨w.heap.size, 2, none⟩ = some (.string t) ∧ w'.cell? ⟨w.heap.size, 3, none⟩ = some (.int .i64 i))
    (first
      | with_reducible exact HX0.out.drew.four'
      | with_reducible exact HX1.out.four'
      | with_reducible exact HX2.out.four'
      | with_reducible exact HX3.out.four'
      | with_reducible exact (nx8 HX3.out _ _ _ _).four'
      | with_reducible exact (nx9 (nx8 HX3.out _ _ _ _) _ _).four'
      | with_reducible exact (nx9 HX3.out _ _).four'
      | with_reducible exact (nx8 (nx9 HX3.out _ _) _ _ _ _).four')
    (first
      | (go_at_call 80
         refine (cursor_any a n cap f t i _).mono ?_
         rintro e w1 ⟨rfl, hb1⟩
         have hb1' := below_drew' hb1
         have HX1 := hide (HX0.out.below hb1' HX0.out.lt)
         have HY1 := hide (HY0.out.below hb1' HY0.out.lt)
         have HZ1 := hide (HZ0.out.below hb1' HZ0.out.lt)
         have HB1 := hide (HB0.out.trans (hb1'.mono HB0.out.size))
         have HO1 := hide (HO0.out.below hb1' (Nat.le_refl _))
         have hs1 := hb1'.size
         clear hb1 hb1' HX0 HY0 HZ0 HB0 HO0)
      | (go_at_call 81
         refine (after_any a n cap i _).mono ?_
         rintro e w2 ⟨rfl, hw2⟩
         have hb2 : Below w1.heap.size w1 w2 := by rw [hw2]; exact (Below.refl _ _).alloc (Nat.le_refl _) _
         have HC2 := hide (show BoxV 108 w2 w1.heap.size #[.slice a n cap, .int .i64 i] from hw2 ▸ BoxV.new _ w1 _)
         have HX2 := hide (HX1.out.below hb2 HX1.out.lt)
         have HY2 := hide (HY1.out.below hb2 HY1.out.lt)
         have HZ2 := hide (HZ1.out.below hb2 HZ1.out.lt)
         have HB2 := hide (HB1.out.trans (hb2.mono HB1.out.size))
         have HO2 := hide (HO1.out.below hb2 (Nat.le_refl _))
         have hs2 := hb2.size
         clear hw2 hb2 HX1 HY1 HZ1 HB1 HO1)
      | (go_at_call 79
         refine (HMV.out _ _ HO2.out HC2.out).mono ?_
         rintro e w3 ⟨v, rfl, ho3, hb3⟩
         obtain ⟨a3, d3, rfl, _⟩ := ho3.form
         have HX3 := hide (HX2.out.below hb3 HX2.out.lt)
         have HY3 := hide (HY2.out.below hb3 HY2.out.lt)
         have HZ3 := hide (HZ2.out.below hb3 HZ2.out.lt)
         have HB3 := hide (HB2.out.trans (hb3.mono HB2.out.size))
         have HL3 := hide (El.Owns.mono (B' := w.heap.size + 1 + 1 + 1) ho3 (by omega))
         obtain ⟨e0, e1, e2, e3⟩ := HY3.out.four'
         have r0 := HY3.out.frozen 0
         have r1 := HY3.out.frozen 1
         have r2 := HY3.out.frozen 2
         have r3 := HY3.out.frozen 3
         obtain ⟨s0, s1⟩ := HZ3.out.two'
         have t0 := HZ3.out.frozen 0
         have t1 := HZ3.out.frozen 1
         have hl2 := HY3.out.lt
         have hl3 := HZ3.out.lt
         clear ho3 hb3 HX2 HY2 HZ2 HB2 HO2 HC2))
  all_goals (
    go_wp2_with fail
    obtain ⟨⟨m1, m2, m3, m4⟩, ⟨m5, m6, m7, m8⟩⟩ := mov_sets (v0 := .slice a3 M.length d3) (v1 := .string x1) (v2 := .string x2) (v3 := .int .i64 x3) (u0 := .string y0) (u1 := .string y1) HY3.out HZ3.out (by omega) HB3.out (by omega) (by omega) HL3.out (by omega) (by omega)
    first
      | exact bodyPost_ret (res_mov rfl _ _ (w.heap.size + 1) (w.heap.size + 1 + 1) rfl rfl m1 m2) rfl ⟨_, rfl, El.Owns.mono m4 (by omega), m3⟩
      | exact bodyPost_ret (res_mov rfl _ _ (w.heap.size + 1) (w.heap.size + 1 + 1) rfl rfl m5 m6) rfl ⟨_, rfl, El.Owns.mono m8 (by omega), m7⟩)
set_option maxHeartbeats 2000000 in
set_option maxRecDepth 20000 in
theorem iIterPrev_any (B : Nat) (a : Option Addr) (cap : Nat) (x : ItE) (w : World) (hO : elKV.Owns B w (.slice a x.1.length cap) x.1) (hl : x.1.length ≤ 2097152) :
    Calls Try.prog 46 #[itV (.slice a x.1.length cap) x] w (MovPost w (prevV x)) := by
  obtain ⟨L, f, t, i⟩ := x
  dsimp only at *
  have HO := hide hO
  have HMV := hide (show ∀ W Bs, elKV.Owns B W (.slice a L.length cap) L → BoxV 108 W Bs #[.slice a L.length cap, .int .i64 i] →
      Calls Try.prog 79 #[itV (.slice a L.length cap) (L, f, t, i), .func (.func 99) #[] #[.pointer (some ⟨Bs, 0, none⟩)], .string f, .int .i64 (-1)] W (MovPost W (prevV (L, f, t, i))) from fun W Bs h hx => by
    by_cases hk : itOk (L, f, t, i)
    · rw [prevV, if_pos hk]
      exact bwd_move B a cap L f t i Bs W h hl hx hk
    · rw [prevV, if_neg hk]
      exact move_bad B a cap L f t i f _ _ W h hl hk)
  obtain ⟨R, hR⟩ : ∃ R, R = prevV (L, f, t, i) := ⟨_, rfl⟩
  rw [← hR] at HMV ⊢
  obtain ⟨⟨M, x1, x2, x3⟩, ⟨y0, y1⟩, q⟩ := R
  unfold MovPost at HMV
  dsimp only at HMV
  obtain ⟨n, hn⟩ : ∃ n, n = L.length := ⟨_, rfl⟩
  rw [← hn] at hl HO HMV ⊢
  clear hO hR hn
  obtain ⟨W0, hW0⟩ : ∃ W0, W0 = ((w.alloc (.cells #[.slice a n cap, .string f, .string t, .int .i64 i] 56)).alloc (.cells #[.slice none 0 0, .string ⟨#[]⟩, .string ⟨#[]⟩, .int .i64 0] 56)).alloc (.cells #[.string ⟨#[]⟩, .string ⟨#[]⟩] 41) := ⟨_, rfl⟩
  have HX0 := hide (show BoxV 56 W0 w.heap.size #[.slice a n cap, .string f, .string t, .int .i64 i] from hW0 ▸ ((BoxV.new _ w _).alloc _).alloc _)
  obtain ⟨j1, j2, j3, j4⟩ : BoxV 56 W0 (w.heap.size + 1) #[.slice none 0 0, .string ⟨#[]⟩, .string ⟨#[]⟩, .int .i64 0] ∧ BoxV 41 W0 (w.heap.size + 1 + 1) #[.string ⟨#[]⟩, .string ⟨#[]⟩] ∧ Below w.heap.size w W0 ∧ W0.heap.size = w.heap.size + 1 + 1 + 1 := by
    obtain ⟨_, k2, k3, k4, _⟩ := three_boxV (w := w) (T := 56) (U := 56) (X := 41) (A := #[.slice a n cap, .string f, .string t, .int .i64 i]) (B := #[.slice none 0 0, .string ⟨#[]⟩, .string ⟨#[]⟩, .int .i64 0]) (C := #[.string ⟨#[]⟩, .string ⟨#[]⟩]) (Below.refl _ _)
    exact ⟨hW0 ▸ k2, hW0 ▸ k3, hW0 ▸ k4, by rw [hW0]; simp⟩
  have HY0 := hide j1
  have HZ0 := hide j2
  have HB0 := hide j3
  have HO0 := hide (show elKV.Owns B W0 (.slice a n cap) L from hW0 ▸ ((HO.out.alloc _).alloc _).alloc _)
  have g0 := HX0.out.four'
  clear j1 j2 j3 HO
  go_enter Try.func46, Try.ntmps46
  go_wp2_with fail
  rw [← hW0]
  obtain ⟨c0, c1, c2, c3⟩ := g0
  clear hW0
  go_region_held3 (fun w' => w'.cell? ⟨w.heap.size, 0, none⟩ = some (.slice a n cap) ∧ w'.cell? ⟨w.heap.size, 1, none⟩ = some (.string f) ∧ w'.cell? ⟨w.heap.size, 2, none⟩ = some (.string t) ∧ w'.cell? ⟨w.heap.size, 3, none⟩ = some (.int .i64 i))
    (first
      | with_reducible exact HX0.out.drew.four'
      | with_reducible exact HX1.out.four'
      | with_reducible exact HX2.out.four'
      | with_reducible exact HX3.out.four'
      | with_reducible exact (nx8 HX3.out _ _ _ _).four'
      | with_reducible exact (nx9 (nx8 HX3.out _ _ _ _) _ _).four'
      | with_reducible exact (nx9 HX3.out _ _).four'
      | with_reducible exact (nx8 (nx9 HX3.out _ _) _ _ _ _).four')
    (first
      | (go_at_call 80
         refine (cursor_any a n cap f t i _).mono ?_
         rintro e w1 ⟨rfl, hb1⟩
         have hb1' := below_drew' hb1
         have HX1 := hide (HX0.out.below hb1' HX0.out.lt)
         have HY1 := hide (HY0.out.below hb1' HY0.out.lt)
         have HZ1 := hide (HZ0.out.below hb1' HZ0.out.lt)
         have HB1 := hide (HB0.out.trans (hb1'.mono HB0.out.size))
         have HO1 := hide (HO0.out.below hb1' (Nat.le_refl _))
         have hs1 := hb1'.size
         clear hb1 hb1' HX0 HY0 HZ0 HB0 HO0)
      | (go_at_call 82
         refine (before_any a n cap i _).mono ?_
         rintro e w2 ⟨rfl, hw2⟩
         have hb2 : Below w1.heap.size w1 w2 := by rw [hw2]; exact (Below.refl _ _).alloc (Nat.le_refl _) _
         have HC2 := hide (show BoxV 108 w2 w1.heap.size #[.slice a n cap, .int .i64 i] from hw2 ▸ BoxV.new _ w1 _)
         have HX2 := hide (HX1.out.below hb2 HX1.out.lt)
         have HY2 := hide (HY1.out.below hb2 HY1.out.lt)
         have HZ2 := hide (HZ1.out.below hb2 HZ1.out.lt)
         have HB2 := hide (HB1.out.trans (hb2.mono HB1.out.size))
         have HO2 := hide (HO1.out.below hb2 (Nat.le_refl _))
         have hs2 := hb2.size
         clear hw2 hb2 HX1 HY1 HZ1 HB1 HO1)
      | (go_at_call 79
         refine (HMV.out _ _ HO2.out HC2.out).mono ?_
         rintro e w3 ⟨v, rfl, ho3, hb3⟩
         obtain ⟨a3, d3, rfl, _⟩ := ho3.form
         have HX3 := hide (HX2.out.below hb3 HX2.out.lt)
         have HY3 := hide (HY2.out.below hb3 HY2.out.lt)
         have HZ3 := hide (HZ2.out.below hb3 HZ2.out.lt)
         have HB3 := hide (HB2.out.trans (hb3.mono HB2.out.size))
         have HL3 := hide (El.Owns.mono (B' := w.heap.size + 1 + 1 + 1) ho3 (by omega))
         obtain ⟨e0, e1, e2, e3⟩ := HY3.out.four'
         have r0 := HY3.out.frozen 0
         have r1 := HY3.out.frozen 1
         have r2 := HY3.out.frozen 2
         have r3 := HY3.out.frozen 3
         obtain ⟨s0, s1⟩ := HZ3.out.two'
         have t0 := HZ3.out.frozen 0
         have t1 := HZ3.out.frozen 1
         have hl2 := HY3.out.lt
         have hl3 := HZ3.out.lt
         clear ho3 hb3 HX2 HY2 HZ2 HB2 HO2 HC2))
  all_goals (
    go_wp2_with fail
    obtain ⟨⟨m1, m2, m3, m4⟩, ⟨m5, m6, m7, m8⟩⟩ := mov_sets (v0 := .slice a3 M.length d3) (v1 := .string x1) (v2 := .string x2) (v3 := .int .i64 x3) (u0 := .string y0) (u1 := .string y1) HY3.out HZ3.out (by omega) HB3.out (by omega) (by omega) HL3.out (by omega) (by omega)
    first
      | exact bodyPost_ret (res_mov rfl _ _ (w.heap.size + 1) (w.heap.size + 1 + 1) rfl rfl m1 m2) rfl ⟨_, rfl, El.Owns.mono m4 (by omega), m3⟩
      | exact bodyPost_ret (res_mov rfl _ _ (w.heap.size + 1) (w.heap.size + 1 + 1) rfl rfl m5 m6) rfl ⟨_, rfl, El.Owns.mono m8 (by omega), m7⟩)
end Go.Proofs.Ytphfakdbgohhgaa

/-
  Contract of impl.IterSeek.
-/
namespace Go.Proofs.Ytphfakdbgohhgaa
open Go.ChangeShapes Go.WideShapes Go.ChangeAt Go.RowKit Go.Shelf

theorem run_maxK (f g : ByteArray) (W : World) (ts : Array TypeId) (ty : TypeId) : (Builtin.max_ ts ty #[.string f, .string g]).run Try.prog W = .ok (.string (maxK f g)) W := by
  cases h : kless f g with
  | true =>
    have h2 : Op.bytesLess f.toList g.toList = true := h
    simp [Builtin.max_, Builtin.max2, Op.stringOp, asBool, maxK, h, h2]
  | false =>
    have h2 : Op.bytesLess f.toList g.toList = false := h
    simp [Builtin.max_, Builtin.max2, Op.stringOp, asBool, maxK, h, h2]
section
variable {T : TypeId} {s : Nat} {X : Array Value} {W : World}
theorem ny8 (h : BoxV T W (s + 1 + 1 + 1) X) (x0 x1 x2 x3 : Value) : BoxV T ((((W.setCell ⟨s + 1, 0, none⟩ x0).setCell ⟨s + 1, 1, none⟩ x1).setCell ⟨s + 1, 2, none⟩ x2).setCell ⟨s + 1, 3, none⟩ x3) (s + 1 + 1 + 1) X := by
  have n1 : s + 1 ≠ s + 1 + 1 + 1 := by omega
  exact (((h.set_other n1 _).set_other n1 _).set_other n1 _).set_other n1 _
theorem ny9 (h : BoxV T W (s + 1 + 1 + 1) X) (x0 x1 : Value) : BoxV T ((W.setCell ⟨s + 1 + 1, 0, none⟩ x0).setCell ⟨s + 1 + 1, 1, none⟩ x1) (s + 1 + 1 + 1) X := by
  have n1 : s + 1 + 1 ≠ s + 1 + 1 + 1 := by omega
  exact (h.set_other n1 _).set_other n1 _
end

set_option maxHeartbeats 2000000 in
set_option maxRecDepth 20000 in
theorem iIterSeek_any (B : Nat) (a : Option Addr) (cap : Nat) (x : ItE) (g : ByteArray) (w : World) (hO : elKV.Owns B w (.slice a x.1.length cap) x.1) (hl : x.1.length ≤ 2097152) :
    Calls Try.prog 48 #[itV (.slice a x.1.length cap) x, .string g] w (MovPost w (seekV x g)) := by
  obtain ⟨L, f, t, i⟩ := x
  dsimp only at *
  have HO := hide hO
  have HMV := hide (show ∀ W Bs, elKV.Owns B W (.slice a L.length cap) L → BoxV 108 W Bs #[.slice a L.length cap, .int .i64 (-1)] →
      Calls Try.prog 79 #[itV (.slice a L.length cap) (L, f, t, i), .func (.func 98) #[] #[.pointer (some ⟨Bs, 0, none⟩)], .string (maxK f g), .int .i64 (L.length : Int)] W (MovPost W (seekV (L, f, t, i) g)) from fun W Bs h hx => by
    by_cases hk : itOk (L, f, t, i)
    · rw [seekV, if_pos hk]
      exact fwd_move B a cap L f t i (maxK f g) g 0 Bs W h hl (by omega) hx (fun k => within_max k f g t) hk
    · rw [seekV, if_neg hk]
      exact move_bad B a cap L f t i _ _ _ W h hl hk)
  obtain ⟨R, hR⟩ : ∃ R, R = seekV (L, f, t, i) g := ⟨_, rfl⟩
  rw [← hR] at HMV ⊢
  obtain ⟨⟨M, x1, x2, x3⟩, ⟨y0, y1⟩, q⟩ := R
  unfold MovPost at HMV
  dsimp only at HMV
  obtain ⟨n, hn⟩ : ∃ n, n = L.length := ⟨_, rfl⟩
  rw [← hn] at hl HO HMV ⊢
  clear hO hR hn
  obtain ⟨W0, hW0⟩ : ∃ W0, W0 = (((w.alloc (.cells #[.slice a n cap, .string f, .string t, .int .i64 i] 56)).alloc (.cells #[.slice none 0 0, .string ⟨#[]⟩, .string ⟨#[]⟩, .int .i64 0] 56)).alloc (.cells #[.string ⟨#[]⟩, .string ⟨#[]⟩] 41)).alloc (.cells #[.slice a n cap, .int .i64 (-1)] 108) := ⟨_, rfl⟩
  obtain ⟨j0, j1, j2, j3, j4⟩ : BoxV 56 W0 w.heap.size #[.slice a n cap, .string f, .string t, .int .i64 i] ∧ BoxV 56 W0 (w.heap.size + 1) #[.slice none 0 0, .string ⟨#[]⟩, .string ⟨#[]⟩, .int .i64 0] ∧ BoxV 41 W0 (w.heap.size + 1 + 1) #[.string ⟨#[]⟩, .string ⟨#[]⟩] ∧ Below w.heap.size w W0 ∧ W0.heap.size = w.heap.size + 1 + 1 + 1 + 1 := by
    obtain ⟨k1, k2, k3, k4, _⟩ := three_boxV (w := w) (T := 56) (U := 56) (X := 41) (A := #[.slice a n cap, .string f, .string t, .int .i64 i]) (B := #[.slice none 0 0, .string ⟨#[]⟩, .string ⟨#[]⟩, .int .i64 0]) (C := #[.string ⟨#[]⟩, .string ⟨#[]⟩]) (Below.refl _ _)
    exact ⟨hW0 ▸ k1.alloc _, hW0 ▸ k2.alloc _, hW0 ▸ k3.alloc _, hW0 ▸ k4.alloc (by simp <;> omega) _, by rw [hW0]; simp⟩
  have HC0 := hide (show BoxV 108 W0 (w.heap.size + 1 + 1 + 1) #[.slice a n cap, .int .i64 (-1)] from by
    have := BoxV.new 108 (((w.alloc (.cells #[.slice a n cap, .string f, .string t, .int .i64 i] 56)).alloc (.cells #[.slice none 0 0, .string ⟨#[]⟩, .string ⟨#[]⟩, .int .i64 0] 56)).alloc (.cells #[.string ⟨#[]⟩, .string ⟨#[]⟩] 41)) #[.slice a n cap, .int .i64 (-1)]
    rw [← hW0, Go.Deep.nblk_alloc, Go.Deep.nblk_alloc, Go.Deep.nblk_alloc] at this
    exact this)
  have HX0 := hide j0
  have HY0 := hide j1
  have HZ0 := hide j2
  have HB0 := hide j3
  have HO0 := hide (show elKV.Owns B W0 (.slice a n cap) L from hW0 ▸ (((HO.out.alloc _).alloc _).alloc _).alloc _)
  have g0 := HX0.out.four'
  have g1 := HC0.out.two'
  have hmax := fun W ts ty => run_maxK f g W ts ty
  clear j0 j1 j2 j3 HO
  go_enter Try.func48, Try.ntmps48
  go_wp2_with fail
  rw [← hW0]
  obtain ⟨c0, c1, c2, c3⟩ := g0
  obtain ⟨d0, d1⟩ := g1
  clear hW0
  go_region_held3 (fun w' => (w'.cell? ⟨w.heap.size, 0, none⟩ = some (.slice a n cap) ∧ w'.cell? ⟨w.heap.size, 1, none⟩ = some (.string f) ∧ w'.cell? ⟨w.heap.size, 2, none⟩ = some (.string t) ∧ w'.cell? ⟨w.heap.size, 3, none⟩ = some (.int .i64 i)) ∧ (w'.cell? ⟨w.heap.size + 1 + 1 + 1, 0, none⟩ = some (.slice a n cap) ∧ w'.cell? ⟨w.heap.size + 1 + 1 + 1, 1, none⟩ = some (.int .i64 (-1))))
    (first
      | with_reducible exact ⟨HX0.out.drew.four', HC0.out.drew.two'⟩
      | with_reducible exact ⟨HX2.out.four', HD2.out.two'⟩
      | with_reducible exact ⟨HX3.out.four', HD3.out.two'⟩
      | with_reducible exact ⟨(nx8 HX3.out _ _ _ _).four', (ny8 HD3.out _ _ _ _).two'⟩
      | with_reducible exact ⟨(nx9 (nx8 HX3.out _ _ _ _) _ _).four', (ny9 (ny8 HD3.out _ _ _ _) _ _).two'⟩)
    (first
      | (go_at_call 81
         refine (after_any a n cap (-1) _).mono ?_
         rintro e w2 ⟨rfl, hw2⟩
         have hb2 : Below W0.heap.size W0 w2 := by rw [hw2]; exact ((Below.refl _ W0).drew.alloc (Nat.le_refl _) _)
         have HC2 := hide (show BoxV 108 w2 (w.heap.size + 1 + 1 + 1 + 1) #[.slice a n cap, .int .i64 (-1)] from by rw [← j4, hw2]; exact BoxV.new _ W0.drew _)
         have HD2 := hide (HC0.out.below hb2 HC0.out.lt)
         have HX2 := hide (HX0.out.below hb2 HX0.out.lt)
         have HY2 := hide (HY0.out.below hb2 HY0.out.lt)
         have HZ2 := hide (HZ0.out.below hb2 HZ0.out.lt)
         have HB2 := hide (HB0.out.trans (hb2.mono HB0.out.size))
         have HO2 := hide (HO0.out.below hb2 (Nat.le_refl _))
         have hs2 := hb2.size
         clear hw2 hb2 HX0 HY0 HZ0 HB0 HO0 HC0)
      | (go_at_call 79
         refine (HMV.out _ _ HO2.out HC2.out).mono ?_
         rintro e w3 ⟨v, rfl, ho3, hb3⟩
         obtain ⟨a3, d3, rfl, _⟩ := ho3.form
         have HD3 := hide (HD2.out.below hb3 HD2.out.lt)
         have HX3 := hide (HX2.out.below hb3 HX2.out.lt)
         have HY3 := hide (HY2.out.below hb3 HY2.out.lt)
         have HZ3 := hide (HZ2.out.below hb3 HZ2.out.lt)
         have HB3 := hide (HB2.out.trans (hb3.mono HB2.out.size))
         have HL3 := hide (El.Owns.mono (B' := w.heap.size + 1 + 1 + 1) ho3 (by omega))
         obtain ⟨e0, e1, e2, e3⟩ := HY3.out.four'
         have r0 := HY3.out.frozen 0
         have r1 := HY3.out.frozen 1
         have r2 := HY3.out.frozen 2
         have r3 := HY3.out.frozen 3
         obtain ⟨s0, s1⟩ := HZ3.out.two'
         have t0 := HZ3.out.frozen 0
         have t1 := HZ3.out.frozen 1
         have hl2 := HY3.out.lt
         have hl3 := HZ3.out.lt
         clear ho3 hb3 HX2 HY2 HZ2 HB2 HO2 HC2))
  all_goals (
    go_wp2_with fail
    obtain ⟨⟨m1, m2, m3, m4⟩, ⟨m5, m6, m7, m8⟩⟩ := mov_sets (v0 := .slice a3 M.length d3) (v1 := .string x1) (v2 := .string x2) (v3 := .int .i64 x3) (u0 := .string y0) (u1 := .string y1) HY3.out HZ3.out (by omega) HB3.out (by omega) (by omega) HL3.out (by omega) (by omega)
    first
      | exact bodyPost_ret (res_mov rfl _ _ (w.heap.size + 1) (w.heap.size + 1 + 1) rfl rfl m1 m2) rfl ⟨_, rfl, El.Owns.mono m4 (by omega), m3⟩
      | exact bodyPost_ret (res_mov rfl _ _ (w.heap.size + 1) (w.heap.size + 1 + 1) rfl rfl m5 m6) rfl ⟨_, rfl, El.Owns.mono m8 (by omega), m7⟩)
end Go.Proofs.Ytphfakdbgohhgaa
