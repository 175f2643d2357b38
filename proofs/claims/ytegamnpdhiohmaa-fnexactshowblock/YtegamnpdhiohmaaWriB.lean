/-
  Contracts of impl's (*textWriter).size, text and write.
-/
import Derived.Test.YtegamnpdhiohmaaWriA
namespace Go.Proofs.Ytegamnpdhiohmaa
open Go.ChangeShapes Go.WideShapes Go.ChangeAt Go.RowKit

theorem size_any {w : World} {g : Nat} {X k : List UInt8} {P : List Nat} (hw : Wri w g X k P) :
    Calls Try.prog 50 #[.pointer (some ⟨g, 0, none⟩)] w fun e w' => e = .returned (.int .i64 (X.length : Int)) ∧ w = w' := by
  obtain ⟨v, u, hx, ht, hr⟩ := hw
  obtain ⟨a, c, rfl⟩ := ht.form'
  obtain ⟨c0, c1, c2⟩ := hx.three
  obtain ⟨n, hn⟩ : ∃ n, n = X.length := ⟨_, rfl⟩
  rw [← hn] at c0 ⊢
  clear hn ht hr hx
  go_enter Try.func50, Try.ntmps50
  go_wp2
  all_goals go_ret
  all_goals exact ⟨rfl, rfl⟩
theorem text_any {w : World} {g : Nat} {X k : List UInt8} {P : List Nat} (hw : Wri w g X k P) :
    Calls Try.prog 25 #[.pointer (some ⟨g, 0, none⟩)] w fun e w' => e = .returned (.string ⟨X.toArray⟩) ∧ w = w' := by
  obtain ⟨v, u, hx, ht, hr⟩ := hw
  obtain ⟨c0, c1, c2⟩ := hx.three
  have hcv := run_convOwn (g + 1) w v X ht
  clear ht hr hx
  go_enter Try.func25, Try.ntmps25
  go_wp2
  all_goals go_ret
  all_goals exact ⟨rfl, rfl⟩

def catL (S : List ByteArray) : List UInt8 := S.flatMap bl
theorem catL_next {S : List ByteArray} {j : Nat} {t : ByteArray} (h : S[j]? = some t) : catL (S.take (j + 1)) = catL (S.take j) ++ bl t := by
  rw [List.take_add_one, h]
  simp [catL]
def WritePost (g : Nat) (X k : List UInt8) (P : List Nat) (u : Value) (w : World) (e : Ending) (w' : World) : Prop := e = .returned (.tuple #[]) ∧ (∃ v, WriAt w' g X k P v u) ∧ Bent g w w'
set_option maxHeartbeats 1000000 in
set_option maxRecDepth 20000 in
theorem write_any (g b : Nat) (X k : List UInt8) (P : List Nat) (S : List ByteArray) (n : Nat) (w : World) {v0 u : Value} (hw : WriAt w g X k P v0 u) (hS : elStr.Holds w b S) (hn : S.length = n) (hn16 : n ≤ 16) (hs : ∀ s ∈ S, s.size ≤ 1000) (hX : X.length ≤ 1000000) :
    Calls Try.prog 52 #[.pointer (some ⟨g, 0, none⟩), .slice (some ⟨b, 0, none⟩) n n] w (WritePost g (X ++ catL S) k P u w) := by
  have hbg : b ≠ g := by
    rintro rfl
    have h1 : w.heap[b]? = _ := hw.box
    have h2 : w.heap[b]? = _ := hS
    rw [h1] at h2
    injection h2 with h2
    injection h2 with _ h3
    exact absurd h3 (by decide)
  have HC := hide (fun (wr : World) (hb : Bent g w wr) (j : Nat) (hj : j < S.length) => show wr.cell? ⟨b, j, none⟩ = some (.string S[j]) from by
    have h1 : elStr.Holds wr b S := hb.keep b _ _ _ hbg (by decide) hS
    have h2 := h1.cell j hj 0 (by decide)
    rwa [show j * elStr.c + 0 = j by show j * 1 + 0 = j; omega] at h2)
  have HN := hide hn
  have HS := hide hs
  have HX := hide hX
  have HW0 := hide hw
  clear hw hS hn hs hX hbg
  go_enter Try.func52, Try.ntmps52
  go_wp2_with fail
  go_loopw [8] (fun i wr => ∃ (j : Nat) (Y : List UInt8), i = .int .i64 j ∧ j ≤ n ∧ Hid (Y = X ++ catL (S.take j)) ∧ Hid (Y.length ≤ 1000000 + 1000 * j) ∧ Hid (∃ v, WriAt wr g Y k P v u) ∧ Hid (Bent g w wr)) (fun i _ => n - (intOf i).toNat)
  case atStart => exact ⟨0, X, rfl, by omega, by simp [Hid, catL], HX, hide ⟨_, HW0.out⟩, hide (Bent.refl _ _)⟩
  case round =>
    obtain ⟨j, Y, rfl, hj, HY, HL, HW, HB⟩ := hrel
    by_cases hlt : j < n
    · have hjS : j < S.length := by have := HN.out; omega
      have d0 := HC.out wr HB.out j hjS
      obtain ⟨t, ht⟩ : ∃ t, t = S[j] := ⟨_, rfl⟩
      have HT := hide (show S[j]? = some t by rw [List.getElem?_eq_getElem hjS, ht])
      have hsz := HS.out t (by rw [ht]; exact List.getElem_mem _)
      rw [← ht] at d0
      obtain ⟨v, hx⟩ := HW.out
      have hgl := hx.lt
      have HXW := hide hx
      have HO := hide hx.text
      obtain ⟨c0, c1, c2⟩ := hx.box.three
      have hlen : Y.length + t.size ≤ 1099511627776 := by have := HL.out; omega
      have HY2 := hide (show Y ++ bl t = X ++ catL (S.take (j + 1)) by rw [HY.out, catL_next HT.out, List.append_assoc])
      have HL2 := hide (show (Y ++ bl t).length ≤ 1000000 + 1000 * (j + 1) by have := HL.out; rw [List.length_append, bl_len]; omega)
      have HBG := hide (fun (w' : World) (h : wr.grownBy w' v.ownBlock) (v' : Value) (h8 : Owns8 (g + 1) w' v' (Y ++ bl t)) => show (∃ v, WriAt (w'.setCell ⟨g, 0, none⟩ v') g (Y ++ bl t) k P v u) ∧ Bent g w (w'.setCell ⟨g, 0, none⟩ v') ∧ w'.frozen? ⟨g, 0, none⟩ = false ∧ w'.cell? ⟨g, 0, none⟩ = some v ∧ g < w'.heap.size from by
        obtain ⟨h1, h2, h3⟩ := HXW.out.grown8 h h8
        exact ⟨⟨_, h3⟩, (HB.out.trans (Bent.grown HXW.out.text (Nat.le_refl _) HXW.out.lt h)).trans (Bent.set g 0 w' v'), h1.frozen 0, h1.cell 0 _ rfl, h1.lt⟩)
      obtain ⟨m, hm⟩ : ∃ m, (Y ++ bl t).length = m := ⟨_, rfl⟩
      have HM := hide hm
      clear hx ht hsz hjS hm
      go_wp2_with (at_builtin; refine appendText rfl (.tmp 16) (.tmp 17) rfl (g + 1) v Y t rfl rfl HO hgl hlen m HM.out ?_; intro a' c' w' HO' HG'; obtain ⟨p1, p2, z0, y0, hgl'⟩ := HBG.out w' HG'.out _ HO'.out; have HP1 := hide p1; have HP2 := hide p2; clear p1 p2 HG' HO' HBG)
      go_roundw
      case rel => exact ⟨j + 1, Y ++ bl t, by go_num, by omega, HY2, HL2, HP1, HP2⟩
      case measure => simp [intOf]; omega
    · have hY := hide (show Y = X ++ catL S by rw [HY.out, List.take_of_length_le (by have := HN.out; omega)])
      go_wp2_with fail
      go_end0
      exact ⟨rfl, by rw [← hY.out]; exact HW.out, HB.out⟩
/-- append(p, n) onto a row of ints of the call's own, as a step of a region that draws its order -/
theorem step_growW {ops : Array Oper} {o : Oper} {a : Act} {K : Act → World → Prop} {Q : Exit → Act → World → Prop} {E : Prop} (hgd : o.guard = none) (s x : Operand)
    (ho : o.op = .call { callee := .builtin .append, args := #[s, x], argTypes := #[43, 43] })
    (B : Nat) (wr : World) (v : Value) (l cs : List Nat) (m : Nat) (vs : Array Value) (hs : a.eval s = v) (hx : a.eval x = .slice (some ⟨wr.heap.size, 0, none⟩) m m)
    (hown : Hid (OwnsW B wr v l)) (hB : B ≤ wr.heap.size)
    (hv : vs = (wordVals .i64 cs).toArray) (hm : cs.length = m) (hlen : l.length + m ≤ 1099511627776) (n : Nat) (hn : (l ++ cs).length = n)
    (h : ∀ a' c' w', Hid (OwnsW B w' (.slice a' n c') (l ++ cs)) → Hid ((wr.alloc (.cells vs 3)).grownBy w' v.ownBlock) → K (a.put o.dst (.slice a' n c')) w') :
    if Region.wanted o (yielded ops a.tmps) = true then Oper.wp Try.prog o a (wr.alloc (.cells vs 3)).drew K Q else E := by
  subst hv
  have hw : Region.wanted o (yielded ops a.tmps) = true := by simp [Region.wanted, hgd]
  rw [if_pos hw]
  obtain ⟨i0, hi, hz0, hz1, hz2⟩ := info_parts infoI
  have hal : OwnsW B (wr.alloc (.cells (wordVals .i64 cs).toArray 3)) v l := World.ownsRow.alloc (h := hown.out) (o := .cells (wordVals .i64 cs).toArray 3)
  refine wp_append_own _ s x 43 ho B 3 i0 (.int .i64 0) 1 8 Try.underlying43 hi hz0 hz1 hz2 rfl (by decide) v l.length (wordVals .i64 l) hs (World.ownsRow.drew hal)
    ⟨wr.heap.size, 0, none⟩ m m (wordVals .i64 cs) hx (by rw [length_wordVals, hm]; omega) ?_ (wordVals_one _ cs) (by unfold maxLen; omega) (by omega) ?_ ?_
  · intro j u hj
    obtain ⟨hj', rfl⟩ := wordVals_some _ cs j u hj
    rw [addr_add0]
    exact (Words.new 3 .i64 wr cs).cell j hj'
  · show B ≤ (wr.alloc _).heap.size
    rw [Go.Deep.nblk_alloc]
    omega
  · intro v' w' h1 h2 _
    have h3 : OwnsW B w' v' (l ++ cs) := by
      show World.ownsRow _ _ _ _ _ _ _
      rw [List.length_append, hm]
      rwa [wordVals_append] at h1
    obtain ⟨a', c', rfl⟩ := h3.form'
    rw [hn] at h3 ⊢
    exact h a' c' w' h3 ⟨h2.os, h2.tape, h2.output, h2.size, h2.block⟩
end Go.Proofs.Ytegamnpdhiohmaa
