/-
  Texts of this proof, put together: DrawA, DrawB, DrawP, DrawW, RowB.
-/
import Derived.Test.YtphfakdbgohhgaaPackAC
import Derived.Test.YtphfakdbgohhgaaPackAD
import Derived.Deep.QuietTactic
import Derived.BigQuiet

/-
  Contract of spec.l1Byte: the next byte of a cursor.
-/
namespace Go.Proofs.Ytphfakdbgohhgaa
open Go.ChangeShapes Go.WideShapes Go.ChangeAt Go.RowKit

def DrawPost (g : Nat) (sv : Value) (w : World) (x : Value) (c : Cu) (e : Ending) (w' : World) : Prop :=
  e = .returned x ∧ CurAt 112 w' g sv c ∧ Turned g w w'

set_option maxRecDepth 20000 in
theorem l1Byte_in (g b off len cap : Nat) (i : Nat) (h : Int) (bs : List Int) (w : World) (hl : bs.length = len) (hi : i < len) (hm : len ≤ 1048576)
    (hc : CurAt 112 w g (.slice (some ⟨b, off, none⟩) len cap) (i, h)) (hcell : w.cell? ⟨b, off + i, none⟩ = some (.int .u8 (bs[i]?.getD 0))) (hne : b ≠ g) (hz : 0 ≤ bs[i]?.getD 0 ∧ bs[i]?.getD 0 ≤ 255) :
    Calls Try.prog 85 #[.pointer (some ⟨g, 0, none⟩)] w (DrawPost g (.slice (some ⟨b, off, none⟩) len cap) w (.int .i64 (cByte bs (i, h))) (aByte bs (i, h))) := by
  obtain ⟨c0, c1, c2⟩ := hc.cells
  have f1 := hc.frozen 1
  have f2 := hc.frozen 2
  have HC := hide hc
  have HL := hide hl
  clear hc hl
  dsimp only at c1 c2
  go_enter Try.func85, Try.ntmps85
  go_wp2
  go_quiet (fail)
  go_wp2
  go_quiet (fail)
  go_wp2
  go_quiet (fail)
  go_wp2
  go_ret
  have e1 : cByte bs (i, h) = addB (mixH (nextH h)) (bs[i]?.getD 0) := by rw [cByte, if_pos (by rw [HL.out]; exact hi)]
  have e2 : aByte bs (i, h) = (i + 1, nextH h) := by rw [aByte, if_pos (by rw [HL.out]; exact hi)]
  rw [e1, e2]
  exact ⟨rfl, (HC.out.set2 (nextH h)).set1 (i + 1), ((Turned.set g w 2 _).drewN _).trans (Turned.set g _ 1 _)⟩

set_option maxRecDepth 20000 in
theorem l1Byte_out (g : Nat) (a : Option Addr) (len cap : Nat) (i : Nat) (h : Int) (bs : List Int) (w : World) (hl : bs.length = len) (hi : ¬ i < len) (_hm : len ≤ 1048576) (_him : i ≤ 1048576)
    (hc : CurAt 112 w g (.slice a len cap) (i, h)) :
    Calls Try.prog 85 #[.pointer (some ⟨g, 0, none⟩)] w (DrawPost g (.slice a len cap) w (.int .i64 (cByte bs (i, h))) (aByte bs (i, h))) := by
  obtain ⟨c0, c1, c2⟩ := hc.cells
  have f1 := hc.frozen 1
  have f2 := hc.frozen 2
  have HC := hide hc
  have HL := hide hl
  clear hc hl
  dsimp only at c1 c2
  go_enter Try.func85, Try.ntmps85
  go_wp2
  go_quiet (fail)
  go_wp2
  go_quiet (fail)
  go_wp2
  go_ret
  have e1 : cByte bs (i, h) = mixH (nextH h) := by rw [cByte, if_neg (by rw [HL.out]; exact hi)]
  have e2 : aByte bs (i, h) = (i, nextH h) := by rw [aByte, if_neg (by rw [HL.out]; exact hi)]
  rw [e1, e2]
  exact ⟨rfl, HC.out.set2 (nextH h), ((Turned.set g w 2 _).drewN _).drewN _⟩

/-- What goes from draw to draw: the cursor in block g, over the bytes bs in old memory (below block B). -/
structure Cursor (B g : Nat) (a : Option Addr) (cap : Nat) (bs : List Int) (w : World) (c : Cu) : Prop where
  cur : CurAt 112 w g (.slice a bs.length cap) c
  code : CodeAt B w a bs
  le : B ≤ g
  many : bs.length ≤ 1048576
  used : c.1 ≤ bs.length
theorem Cursor.lt {B g : Nat} {a : Option Addr} {cap : Nat} {bs : List Int} {w : World} {c : Cu} (h : Cursor B g a cap bs w c) : g < w.heap.size := h.cur.lt
theorem Cursor.turn {B g : Nat} {a : Option Addr} {cap : Nat} {bs : List Int} {w w' : World} {c c' : Cu} (h : Cursor B g a cap bs w c) (hc : CurAt 112 w' g (.slice a bs.length cap) c') (ht : Turned g w w') (hu : c'.1 ≤ bs.length) : Cursor B g a cap bs w' c' :=
  ⟨hc, ht.code h.le (by have := h.lt; have := h.le; omega) h.code, h.le, h.many, hu⟩
/-- Whatever leaves the cursor's block and the old memory as they were. -/
theorem Cursor.keep {B g : Nat} {a : Option Addr} {cap : Nat} {bs : List Int} {w w' : World} {c : Cu} (h : Cursor B g a cap bs w c) (hb : Below (g + 1) w w') : Cursor B g a cap bs w' c :=
  ⟨h.cur.of_block (hb.block g (by omega)), h.code.keep (fun k hk => hb.block k (by have := h.le; omega)), h.le, h.many, h.used⟩

theorem Cursor.drew {B g : Nat} {a : Option Addr} {cap : Nat} {bs : List Int} {w : World} {c : Cu} (h : Cursor B g a cap bs w c) : Cursor B g a cap bs w.drew c := ⟨h.cur, h.code, h.le, h.many, h.used⟩

/-- A draw: its value, the cursor behind it, and what it did to memory. -/
def Drew (B g : Nat) (a : Option Addr) (cap : Nat) (bs : List Int) (w : World) (x : Value) (c : Cu) (e : Ending) (w' : World) : Prop :=
  e = .returned x ∧ Cursor B g a cap bs w' c ∧ Turned g w w'

theorem l1Byte_any {B g : Nat} {a : Option Addr} {cap : Nat} {bs : List Int} {w : World} {c : Cu} (h : Cursor B g a cap bs w c) :
    Calls Try.prog 85 #[.pointer (some ⟨g, 0, none⟩)] w (Drew B g a cap bs w (.int .i64 (cByte bs c)) (aByte bs c)) := by
  obtain ⟨i, hh⟩ := c
  by_cases hi : i < bs.length
  · obtain ⟨b, off, rfl, hb, hc⟩ := h.code.2 (by omega)
    have hz := h.code.1 (bs[i]) (List.getElem_mem hi)
    refine (l1Byte_in g b off bs.length cap i hh bs w rfl hi h.many h.cur (hc i hi) (by have := h.le; omega) (by simpa [hi] using hz)).mono ?_
    rintro e w' ⟨rfl, h1, h2⟩
    exact ⟨rfl, h.turn h1 h2 (aByte_le bs _ h.used), h2⟩
  · refine (l1Byte_out g a bs.length cap i hh bs w rfl hi h.many (Nat.le_trans h.used h.many) h.cur).mono ?_
    rintro e w' ⟨rfl, h1, h2⟩
    exact ⟨rfl, h.turn h1 h2 (aByte_le bs _ h.used), h2⟩
end Go.Proofs.Ytphfakdbgohhgaa

/-
  Contracts of spec.l1Below, l1Once, l1PickInt and l1Num.
-/
namespace Go.Proofs.Ytphfakdbgohhgaa
open Go.ChangeShapes Go.WideShapes Go.ChangeAt Go.RowKit

set_option maxHeartbeats 1000000 in
theorem l1Below_any {B g : Nat} {a : Option Addr} {cap : Nat} {bs : List Int} {w : World} {c : Cu} (n : Int) (hn : n ≤ 1099511627776) (h : Cursor B g a cap bs w c) :
    Calls Try.prog 52 #[.pointer (some ⟨g, 0, none⟩), .int .i64 n] w (Drew B g a cap bs w (.int .i64 (cBelow bs n c)) (aBelow bs n c)) := by
  have H := hide h
  clear h
  by_cases h0 : n ≤ 0
  · have E : Hid (cBelow bs n c = 0 ∧ aBelow bs n c = c) := by unfold cBelow aBelow; rw [if_pos h0, if_pos h0]; exact ⟨rfl, rfl⟩
    go_enter Try.func52, Try.ntmps52
    go_wp2
    go_ret
    exact ⟨by rw [E.out.1]; rfl, by rw [E.out.2]; exact H.out, Turned.refl _ _⟩
  · by_cases h1 : n ≤ 256
    · have E : Hid (cBelow bs n c = cByte bs c % n ∧ aBelow bs n c = aByte bs c) := by unfold cBelow aBelow; rw [if_neg h0, if_neg h0, if_pos h1, if_pos h1]; exact ⟨rfl, rfl⟩
      have hb := cByte_bd bs c
      go_enter Try.func52, Try.ntmps52
      go_wp2_with (go_at_call 85; refine (l1Byte_any H.out).mono ?_; rintro e w1 ⟨rfl, hc1, ht1⟩; have HC1 := hide hc1; have HT1 := hide ht1; clear hc1 ht1)
      go_ret
      exact ⟨by rw [E.out.1]; rfl, by rw [E.out.2]; exact HC1.out, HT1.out⟩
    · have E : Hid (cBelow bs n c = (cByte bs c * 16777216 + cByte bs (aByte bs c) * 65536 + cByte bs (aByte bs (aByte bs c)) * 256 + cByte bs (aByte bs (aByte bs (aByte bs c)))) % n ∧ aBelow bs n c = aByte bs (aByte bs (aByte bs (aByte bs c)))) := by unfold cBelow aBelow; rw [if_neg h0, if_neg h0, if_neg h1, if_neg h1]; exact ⟨rfl, rfl⟩
      have hb1 := cByte_bd bs c
      have hb2 := cByte_bd bs (aByte bs c)
      have hb3 := cByte_bd bs (aByte bs (aByte bs c))
      have hb4 := cByte_bd bs (aByte bs (aByte bs (aByte bs c)))
      go_enter Try.func52, Try.ntmps52
      go_wp2_with fail
      refine (l1Byte_any H.out).mono ?_
      rintro e w1 ⟨rfl, hc1, ht1⟩
      have HC1 := hide hc1
      have HT1 := hide ht1
      clear hc1 ht1
      go_wp2_with fail
      refine (l1Byte_any HC1.out).mono ?_
      rintro e w2 ⟨rfl, hc2, ht2⟩
      have HC2 := hide hc2
      have HT2 := hide ht2
      clear hc2 ht2
      go_wp2_with fail
      refine (l1Byte_any HC2.out).mono ?_
      rintro e w3 ⟨rfl, hc3, ht3⟩
      have HC3 := hide hc3
      have HT3 := hide ht3
      clear hc3 ht3
      go_wp2_with fail
      refine (l1Byte_any HC3.out).mono ?_
      rintro e w4 ⟨rfl, hc4, ht4⟩
      have HC4 := hide hc4
      have HT4 := hide ht4
      clear hc4 ht4
      go_wp2
      go_ret
      exact ⟨by rw [E.out.1]; rfl, by rw [E.out.2]; exact HC4.out, ((HT1.out.trans HT2.out).trans HT3.out).trans HT4.out⟩

theorem l1Once_any {B g : Nat} {a : Option Addr} {cap : Nat} {bs : List Int} {w : World} {c : Cu} (n : Int) (hn : n ≤ 1099511627776) (h : Cursor B g a cap bs w c) :
    Calls Try.prog 54 #[.pointer (some ⟨g, 0, none⟩), .int .i64 n] w (Drew B g a cap bs w (.bool (cBelow bs n c == 0)) (aBelow bs n c)) := by
  have H := hide h
  clear h
  go_enter Try.func54, Try.ntmps54
  go_wp2_with (go_at_call 52; refine (l1Below_any n hn H.out).mono ?_; rintro e w1 ⟨rfl, hc1, ht1⟩; have HC1 := hide hc1; have HT1 := hide ht1; clear hc1 ht1)
  go_ret
  exact ⟨rfl, HC1.out, HT1.out⟩
end Go.Proofs.Ytphfakdbgohhgaa

/-
  Contract of spec.l1PickInt.
-/
namespace Go.Proofs.Ytphfakdbgohhgaa
open Go.ChangeShapes Go.WideShapes Go.ChangeAt Go.RowKit

theorem l1PickInt_any {B g : Nat} {a : Option Addr} {cap : Nat} {bs : List Int} {w : World} {c : Cu} (N n : Nat) (zs : List Int) (h0 : 0 < n) (hn : n ≤ 1048576) (hN : N < w.heap.size) (hg : N ≠ g)
    (hcell : ∀ j, j < n → w.cell? ⟨N, j, none⟩ = some (.int .i64 (zs[j]?.getD 0))) (h : Cursor B g a cap bs w c) :
    Calls Try.prog 84 #[.pointer (some ⟨g, 0, none⟩), .slice (some ⟨N, 0, none⟩) n n] w (Drew B g a cap bs w (.int .i64 (zs[(cBelow bs n c).toNat]?.getD 0)) (aBelow bs n c)) := by
  have H := hide h
  have HC := hide hcell
  have hb := cBelow_bd bs n c (by omega)
  clear h hcell
  go_enter Try.func84, Try.ntmps84
  go_wp2_with (go_at_call 52; refine (l1Below_any (n : Int) (by omega) H.out).mono ?_; rintro e w1 ⟨rfl, hc1, ht1⟩; have hx := (ht1.cell (p := ⟨N, (cBelow bs n c).toNat, none⟩) hN hg).trans (HC.out _ (by omega)); have HC1 := hide hc1; have HT1 := hide ht1; clear hc1 ht1)
  go_ret
  exact ⟨rfl, HC1.out, HT1.out⟩
end Go.Proofs.Ytphfakdbgohhgaa

/-
  Contract of spec.l1New: a new cursor.
-/
namespace Go.Proofs.Ytphfakdbgohhgaa
open Go.ChangeShapes Go.WideShapes Go.ChangeAt Go.RowKit

def NewPost (B : Nat) (a : Option Addr) (cap : Nat) (bs : List Int) (w : World) (e : Ending) (w' : World) : Prop :=
  e = .returned (.pointer (some ⟨w.heap.size, 0, none⟩)) ∧ Cursor B w.heap.size a cap bs w' (newC bs) ∧ Below w.heap.size w w'

theorem l1New_any {B : Nat} (a : Option Addr) (cap : Nat) (bs : List Int) (w : World) (hB : B ≤ w.heap.size) (hc : CodeAt B w a bs) (hm : bs.length ≤ 1048576) :
    Calls Try.prog 49 #[.slice a bs.length cap] w (NewPost B a cap bs w) := by
  have H := hide hc
  clear hc
  obtain ⟨n, hn⟩ : ∃ n, n = bs.length := ⟨_, rfl⟩
  rw [← hn]
  rw [← hn] at hm
  have HN := hide hn
  clear hn
  go_enter Try.func49, Try.ntmps49
  go_wp2
  go_loop [3, 4] (fun x i => ∃ j : Nat, j ≤ n ∧ j ≤ 4000 ∧ i = .int .i64 j ∧ x = .int .i64 (nH (bs.take j) (10101 + (n : Int)))) (fun _ i => 4000 - (intOf i).toNat)
  case atStart => exact ⟨0, by omega, by omega, rfl, rfl⟩
  case round =>
    obtain ⟨j, hj, hj4, rfl, rfl⟩ := hrel
    have hb := nH_bd (bs.take j) (10101 + (n : Int)) (by omega) (by omega)
    by_cases hlt : j < n ∧ j < 4000
    · obtain ⟨h1, h2⟩ := hlt
      have d1 : decide ((j : Int) < 4000) = true := decide_eq_true (by omega)
      have hjl : j < bs.length := by rw [← HN.out]; exact h1
      obtain ⟨b, off, rfl, _, hcell⟩ := H.out.2 (by omega)
      have hx := hcell j hjl
      have hz := H.out.1 (bs[j]) (List.getElem_mem hjl)
      have hz' : 0 ≤ bs[j]?.getD 0 ∧ bs[j]?.getD 0 ≤ 255 := by simpa [hjl] using hz
      have HT := hide (take_snocI bs j hjl)
      have HS := hide (nH_snoc (bs.take j) (bs[j]?.getD 0) (10101 + (n : Int)))
      clear hcell hz hjl
      go_wp2
      go_round
      case rel => exact ⟨j + 1, by omega, by omega, by go_num, by rw [HT.out, HS.out]; rfl⟩
      case measure => simp [intOf]; omega
    · have HE := hide (show nH (bs.take j) (10101 + (n : Int)) = (newC bs).2 by
        rw [newC, ← HN.out]
        by_cases h4 : j = 4000
        · rw [h4]
        · rw [List.take_of_length_le (by rw [← HN.out]; omega), List.take_of_length_le (by rw [← HN.out]; omega)])
      by_cases h4 : j < n
      · have d1 : decide ((j : Int) < 4000) = false := decide_eq_false (by omega)
        clear hlt
        go_wp2
        go_ret
        refine ⟨rfl, ⟨?_, (H.out.below ((Below.refl B w).alloc hB _)), hB, by rw [← HN.out]; exact hm, Nat.zero_le _⟩, (Below.refl _ _).alloc (Nat.le_refl _) _⟩
        unfold CurAt
        rw [← HN.out, ← HE.out]
        exact Go.Deep.blk_alloc_new w _
      · have d1 : decide ((j : Int) < (n : Int)) = false := decide_eq_false (by omega)
        clear hlt
        go_wp2
        go_ret
        refine ⟨rfl, ⟨?_, (H.out.below ((Below.refl B w).alloc hB _)), hB, by rw [← HN.out]; exact hm, Nat.zero_le _⟩, (Below.refl _ _).alloc (Nat.le_refl _) _⟩
        unfold CurAt
        rw [← HN.out, ← HE.out]
        exact Go.Deep.blk_alloc_new w _
end Go.Proofs.Ytphfakdbgohhgaa

/-
  A slice of integers that came in, and the code that a law draws from.
-/
namespace Go.Proofs.Ytphfakdbgohhgaa
open Go.ChangeShapes Go.WideShapes Go.ChangeAt Go.RowKit

/-- What the walk is told of a slice of integers that came in. -/
def IsRow (k : IntKind) (w : World) (a : Option Addr) (len cap : Nat) (zs : List Int) : Prop :=
  (a = none ∧ len = 0 ∧ cap = 0 ∧ zs = []) ∨
  ∃ x, a = some x ∧ len ≤ cap ∧ cap ≤ maxLen ∧ zs.length = cap ∧ (∀ i, i < zs.length → w.cell? (x.add i) = some (.int k (zs.getD i 0))) ∧ ∀ n ∈ zs, (Lit.int k n).wf = true

theorem IsRow.code {w : World} {a : Option Addr} {len cap : Nat} {zs : List Int} (h : IsRow .u8 w a len cap zs) : (zs.take len).length = len ∧ CodeAt w.heap.size w a (zs.take len) := by
  rcases h with ⟨rfl, rfl, rfl, rfl⟩ | ⟨x, rfl, hl, hm, hz, hcell, hwz⟩
  · exact ⟨rfl, fun z hz => by simp at hz, fun hp => by simp at hp⟩
  · have hlen : (zs.take len).length = len := by rw [List.length_take]; omega
    refine ⟨hlen, fun z hz' => ?_, fun hp => ?_⟩
    · have := hwz z (List.mem_of_mem_take hz')
      simpa [Lit.wf, IntKind.min, IntKind.max, IntKind.signed, IntKind.bits] using this
    · obtain ⟨b, off, spot⟩ := x
      have hc := hcell 0 (by omega)
      have hspot : spot = none := by simpa [Addr.add] using World.cell?_spot hc
      subst hspot
      refine ⟨b, off, rfl, ?_, fun j hj => ?_⟩
      · refine Nat.lt_of_not_le fun hge => ?_
        rw [addr_add] at hc
        simp [World.cell?, Array.getElem?_eq_none hge] at hc
      · have h1 := hcell j (by omega)
        rw [addr_add] at h1
        rw [h1, List.getElem?_take, if_pos (by omega)]
        rfl
end Go.Proofs.Ytphfakdbgohhgaa
