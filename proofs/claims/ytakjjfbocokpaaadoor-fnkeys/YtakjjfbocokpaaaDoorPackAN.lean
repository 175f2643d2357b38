/-
  Texts of this proof, put together: ChaI, ChaJ, OwnW, ChaS, ChaU.
-/
import Derived.Test.YtakjjfbocokpaaaDoorPackAM
import Derived.Test.YtakjjfbocokpaaaDoorPackAF
import Derived.Test.YtakjjfbocokpaaaDoorPackAC

/-
  Contract of impl.ChaBlock.
-/
namespace Go.Proofs.YtakjjfbocokpaaaDoor
open Go.ChangeShapes Go.WideShapes Go.ChangeAt Go.RowKit

set_option maxRecDepth 100000

theorem zeros_arr : #[Value.int .u32 0, .int .u32 0, .int .u32 0, .int .u32 0, .int .u32 0, .int .u32 0, .int .u32 0, .int .u32 0, .int .u32 0, .int .u32 0, .int .u32 0, .int .u32 0, .int .u32 0, .int .u32 0, .int .u32 0, .int .u32 0] = (wordVals .u32 (List.replicate 16 0) ++ []).toArray := rfl
theorem QPost.new (T : TypeId) (w : World) : QPost .u32 T [] (w.alloc (.cells #[Value.int .u32 0, .int .u32 0, .int .u32 0, .int .u32 0, .int .u32 0, .int .u32 0, .int .u32 0, .int .u32 0, .int .u32 0, .int .u32 0, .int .u32 0, .int .u32 0, .int .u32 0, .int .u32 0, .int .u32 0, .int .u32 0] T)) w.heap.size (List.replicate 16 0) (w.alloc (.cells #[Value.int .u32 0, .int .u32 0, .int .u32 0, .int .u32 0, .int .u32 0, .int .u32 0, .int .u32 0, .int .u32 0, .int .u32 0, .int .u32 0, .int .u32 0, .int .u32 0, .int .u32 0, .int .u32 0, .int .u32 0, .int .u32 0] T)) := by
  refine ⟨?_, by simp, fun x hx => ?_, Below.refl _ _, rfl⟩
  · unfold Words; rw [← zeros_arr]; exact Go.Deep.blk_alloc_new w _
  · have := List.eq_of_mem_replicate hx; omega

theorem QPost.setN {k : IntKind} {T : TypeId} {tl : List Value} {w w1 : World} {g : Nat} {L : List Nat} (h : QPost k T tl w g L w1) (j x : Nat) (hj : j < 16) (hx : x < 4294967296) :
    QPost k T tl w g (L.set j x) (w1.setCell ⟨g, j, none⟩ (.int k x)) := by
  obtain ⟨h1, h2, h3, h4, h5⟩ := h
  exact ⟨h1.set j x (by omega) _ rfl, by simp [h2], h3.set _ _ hx, h4.setCell (Nat.le_refl _) _, by rw [← h5]; exact size_setCell _ _ _⟩
theorem list16 (S : List Nat) (h : S.length = 16) : S = [wd S 0, wd S 1, wd S 2, wd S 3, wd S 4, wd S 5, wd S 6, wd S 7, wd S 8, wd S 9, wd S 10, wd S 11, wd S 12, wd S 13, wd S 14, wd S 15] := by
  refine ext_wd (by simp [h]) fun j hj => ?_
  rw [h] at hj
  have : j = 0 ∨ j = 1 ∨ j = 2 ∨ j = 3 ∨ j = 4 ∨ j = 5 ∨ j = 6 ∨ j = 7 ∨ j = 8 ∨ j = 9 ∨ j = 10 ∨ j = 11 ∨ j = 12 ∨ j = 13 ∨ j = 14 ∨ j = 15 := by omega
  rcases this with rfl | rfl | rfl | rfl | rfl | rfl | rfl | rfl | rfl | rfl | rfl | rfl | rfl | rfl | rfl | rfl <;> rfl
def arr16 (S : List Nat) : Array Value := #[.int .u32 (wd S 0 : Nat), .int .u32 (wd S 1 : Nat), .int .u32 (wd S 2 : Nat), .int .u32 (wd S 3 : Nat), .int .u32 (wd S 4 : Nat), .int .u32 (wd S 5 : Nat), .int .u32 (wd S 6 : Nat), .int .u32 (wd S 7 : Nat), .int .u32 (wd S 8 : Nat), .int .u32 (wd S 9 : Nat), .int .u32 (wd S 10 : Nat), .int .u32 (wd S 11 : Nat), .int .u32 (wd S 12 : Nat), .int .u32 (wd S 13 : Nat), .int .u32 (wd S 14 : Nat), .int .u32 (wd S 15 : Nat)]
theorem arr16_eq (S : List Nat) (h : S.length = 16) : arr16 S = (wordVals .u32 S ++ []).toArray := by
  conv => rhs; rw [list16 S h]
  rfl
theorem QPost.copy (T : TypeId) (w : World) (S : List Nat) (h : S.length = 16) (hF : Fit S) : QPost .u32 T [] (w.alloc (.cells (arr16 S) T)) w.heap.size S (w.alloc (.cells (arr16 S) T)) := by
  refine ⟨?_, h, hF, Below.refl _ _, rfl⟩
  unfold Words; rw [arr16_eq S h]; exact Go.Deep.blk_alloc_new w _

set_option maxHeartbeats 4000000 in
theorem iBlock_yes (k n : ByteArray) (c : Nat) (w : World) (hk : k.size = 32) (hn : n.size = 12) (hc : c < 4294967296) :
    Calls Tryd.prog 79 #[.string k, .int .i64 c, .string n] w (StrPost w (chaB (bl k) c (bl n))) := by
  have d1 : ((k.size : Int) != 32) = false := by rw [hk]; rfl
  have d2 : ((n.size : Int) != 12) = false := by rw [hn]; rfl
  have d3 : decide ((c : Int) < 0) = false := by simp
  have d4 : decide ((4294967295 : Int) < (c : Int)) = false := by simp; omega
  go_enter Tryd.func79, Tryd.ntmps79
  go_wp2_with fail
  refine (iFill 123 w.heap.size 0 _ _ _ _ (QPost.new _ w) (by decide)).mono ?_
  rintro e w1 ⟨rfl, hq1⟩
  have HQ1 := hide hq1
  clear hq1
  go_wp2_with fail
  refine (iFill 123 w.heap.size 4 k _ _ _ HQ1.out (by omega)).mono ?_
  rintro e w2 ⟨rfl, hq2⟩
  have c12 := hq2.cell 12 (by omega)
  have f12 := hq2.frozen 12
  have HQ2 := hide hq2
  clear hq2 HQ1
  go_wp2_with fail
  refine (iFill 123 w.heap.size 13 n _ _ _ (HQ2.out.setN 12 c (by omega) hc) (by omega)).mono ?_
  rintro e w3 ⟨rfl, hq3⟩
  rw [show fillL (((fillL (fillL (List.replicate 16 0) 0 (bl ⟨#[101, 120, 112, 97, 110, 100, 32, 51, 50, 45, 98, 121, 116, 101, 32, 107]⟩) (ByteArray.size ⟨#[101, 120, 112, 97, 110, 100, 32, 51, 50, 45, 98, 121, 116, 101, 32, 107]⟩)) 4 (bl k) k.size).set 12 c)) 13 (bl n) n.size = chaStart (bl k) c (bl n) by rw [← chaLaid_eq, hk, hn]; rfl] at hq3
  have HQ3 := hide hq3
  clear hq3 HQ2 c12 f12
  obtain ⟨S, hS⟩ : ∃ S, S = chaStart (bl k) c (bl n) := ⟨_, rfl⟩
  rw [← hS] at HQ3
  have HS := hide hS
  clear hS
  have c0 := HQ3.out.cell 0 (by omega)
  have c1 := HQ3.out.cell 1 (by omega)
  have c2 := HQ3.out.cell 2 (by omega)
  have c3 := HQ3.out.cell 3 (by omega)
  have c4 := HQ3.out.cell 4 (by omega)
  have c5 := HQ3.out.cell 5 (by omega)
  have c6 := HQ3.out.cell 6 (by omega)
  have c7 := HQ3.out.cell 7 (by omega)
  have c8 := HQ3.out.cell 8 (by omega)
  have c9 := HQ3.out.cell 9 (by omega)
  have c10 := HQ3.out.cell 10 (by omega)
  have c11 := HQ3.out.cell 11 (by omega)
  have c12 := HQ3.out.cell 12 (by omega)
  have c13 := HQ3.out.cell 13 (by omega)
  have c14 := HQ3.out.cell 14 (by omega)
  have c15 := HQ3.out.cell 15 (by omega)
  go_wp2_with fail
  clear c0 c1 c2 c3 c4 c5 c6 c7 c8 c9 c10 c11 c12 c13 c14 c15
  have hG : w3.heap.size = w.heap.size + 1 := by have := HQ3.out.2.2.2.2; rw [Go.Deep.nblk_alloc] at this; exact this
  have HG := hide hG
  clear hG
  have HC := hide (QPost.copy 123 w3 S HQ3.out.2.1 HQ3.out.2.2.1)
  have HB0 := hide (((Below.refl _ w).alloc (Nat.le_refl _) _).trans HQ3.out.2.2.2.1)
  unfold arr16 at HC
  have HA := hide (show ∀ W, Below w3.heap.size (w3.alloc (.cells (arr16 S) 123)) W → Words .u32 123 [] W w.heap.size S ∧ Below w.heap.size w W from fun W hW => by
    have hlt : w.heap.size < w3.heap.size := by rw [HG.out]; omega
    exact ⟨(HQ3.out.1.alloc hlt _).below hW hlt, (HB0.out.alloc (by omega) _).trans (hW.mono (by omega))⟩)
  unfold arr16 at HA
  have HF := hide HQ3.out.2.2.1
  have HL := hide HQ3.out.2.1
  have HZ := hide (show w3.heap.size < (w3.alloc (.cells (arr16 S) 123)).heap.size by rw [Go.Deep.nblk_alloc]; omega)
  unfold arr16 at HZ
  clear HB0 HQ3
  generalize (w3.alloc (.cells #[.int .u32 (wd S 0 : Nat), .int .u32 (wd S 1 : Nat), .int .u32 (wd S 2 : Nat), .int .u32 (wd S 3 : Nat), .int .u32 (wd S 4 : Nat), .int .u32 (wd S 5 : Nat), .int .u32 (wd S 6 : Nat), .int .u32 (wd S 7 : Nat), .int .u32 (wd S 8 : Nat), .int .u32 (wd S 9 : Nat), .int .u32 (wd S 10 : Nat), .int .u32 (wd S 11 : Nat), .int .u32 (wd S 12 : Nat), .int .u32 (wd S 13 : Nat), .int .u32 (wd S 14 : Nat), .int .u32 (wd S 15 : Nat)] 123)) = W3 at HC HA HZ ⊢
  generalize w3.heap.size = G at HC HA HG HZ ⊢
  go_loopw [35] (fun i wr => ∃ j : Nat, j ≤ 10 ∧ i = .int .i64 j ∧ Hid (QPost .u32 123 [] W3 G (drounds S j) wr)) (fun i _ => 10 - (intOf i).toNat)
  case atStart => exact ⟨0, by omega, rfl, HC⟩
  case round =>
    obtain ⟨j, hj, rfl, HR⟩ := hrel
    by_cases hlt : j < 10
    · go_wp2_with (go_at_call 108; refine (iDouble 123 G _ _ _ HR.out).mono ?_; rintro e w' ⟨rfl, hq⟩; have HN := hide hq; clear hq)
      go_roundw
      case rel => exact ⟨j + 1, by omega, by go_num, HN⟩
      case measure => simp [intOf]; omega
    · have e4 : j = 10 := by omega
      rw [e4] at HR
      clear e4
      go_wp2_with fail
      go_loopw [9, 39] (fun _ i wr => ∃ j : Nat, j ≤ 16 ∧ i = .int .i64 j ∧ Hid (QPost .u32 123 [] W3 G (sumW (drounds S 10) S j) wr)) (fun _ i _ => 16 - (intOf i).toNat)
      case atStart => exact ⟨0, by omega, rfl, HR⟩
      case round =>
        obtain ⟨j, hj, rfl, HR⟩ := hrel
        by_cases hlt : j < 16
        · go_wp2_with fail
          have i1 : (j : Int) < 16 := by omega
          have c1 := HR.out.cell j hlt
          have f1 := HR.out.frozen j
          have c2 := (HA.out _ HR.out.2.2.2.1).1.cell j (by rw [HL.out]; exact hlt)
          refine wp_region_still_tail 8 (by kernel_rfl) (by kernel_rfl) ?_
          simp only [List.take_succ_cons, List.take_zero, List.drop_succ_cons, List.drop_zero]
          iterate 8 still_step
          refine wpStill_nil ?_
          go_wp2_with fail
          go_roundw
          case rel =>
            refine ⟨j + 1, by omega, by go_num, ?_⟩
            exact HR.out.set j _ hlt (Nat.mod_lt _ (by omega)) _ (by omega)
          case measure => simp [intOf]; omega
        · have e4 : j = 16 := by omega
          rw [e4, sumW_all _ _ (by rw [length_drounds, HL.out])] at HR
          clear e4
          go_wp2_with (go_at_call 109; refine (iText 123 G _ _ HR.out.1 HR.out.2.1 HR.out.2.2.1 (by rw [HR.out.2.2.2.2]; exact HZ.out)).mono ?_; rintro e w' ⟨rfl, hb⟩; have HN := hide hb; clear hb)
          go_ret
          refine ⟨by rw [chaB, ← HS.out]; rfl, ?_⟩
          have h1 := (HA.out _ HR.out.2.2.2.1).2
          exact h1.trans (HN.out.mono h1.size)
end Go.Proofs.YtakjjfbocokpaaaDoor

/-
  Contract of impl.ChaBlock, whatever its arguments.
-/
namespace Go.Proofs.YtakjjfbocokpaaaDoor
open Go.ChangeShapes Go.WideShapes Go.ChangeAt Go.RowKit

set_option maxRecDepth 100000

theorem iBlock_no (k n : ByteArray) (c : Int) (w : World) (h : ¬ BlockOk (bl k) c (bl n)) :
    Calls Tryd.prog 79 #[.string k, .int .i64 c, .string n] w (StrPost w []) := by
  unfold BlockOk at h
  rw [bl_len, bl_len] at h
  cases d1 : ((k.size : Int) != 32) <;> cases d2 : decide (c < 0) <;> cases d3 : decide (4294967295 < c) <;> cases d4 : ((n.size : Int) != 12)
  all_goals first
    | (exfalso; simp at d1 d2 d3 d4; omega)
    | (clear h
       go_enter Tryd.func79, Tryd.ntmps79
       go_wp2_with fail
       go_ret
       exact ⟨rfl, Below.refl _ _⟩)

theorem iBlock_any (k n : ByteArray) (c : Int) (w : World) :
    Calls Tryd.prog 79 #[.string k, .int .i64 c, .string n] w (StrPost w (blockV (bl k) c (bl n))) := by
  unfold blockV
  split
  · rename_i h
    obtain ⟨h1, h2, h3, h4⟩ := h
    rw [bl_len] at h1 h2
    have := iBlock_yes k n c.toNat w h1 h2 (by omega)
    rwa [Int.toNat_of_nonneg h3] at this
  · rename_i h; exact iBlock_no k n c w h
end Go.Proofs.YtakjjfbocokpaaaDoor

/-
  Slices of ints that the call itself owns (OwnI), next to chapter 3's words.
-/

/-
  Contract of spec.l3Block.
-/
namespace Go.Proofs.YtakjjfbocokpaaaDoor
open Go.ChangeShapes Go.WideShapes Go.ChangeAt Go.RowKit
set_option maxRecDepth 100000

theorem sLittleI (s : ByteArray) (p : Nat) (p' : Int) (hp : p' = (p : Int)) (h : p + 3 < s.size) (hm : s.size ≤ maxLen) (w : World) :
    Calls Tryd.prog 120 #[.string s, .int .i64 p'] w fun e w' => e = .returned (.int .i64 (leW (bl s) p : Nat)) ∧ w' = w.drew := by
  subst hp; exact sLittle s p h hm w
theorem leWs_succ (l : List UInt8) (j : Nat) : leWs l (j + 1) = leWs l j ++ [leW l (4 * j)] := by simp [leWs, List.range_succ]
theorem length_leWs (l : List UInt8) (j : Nat) : (leWs l j).length = j := by simp [leWs]
theorem fit_chaStart (k : List UInt8) (c : Nat) (n : List UInt8) (hc : c < 4294967296) : Fit (chaStart k c n) := by
  intro x hx
  simp only [chaStart, List.mem_append, List.mem_singleton] at hx
  have hl : ∀ l m, x ∈ leWs l m → x < 4294967296 := by
    intro l m h
    simp only [leWs, List.mem_map] at h
    obtain ⟨q, _, rfl⟩ := h
    exact leW_lt _ _
  rcases hx with ((h | h) | h) | h
  · simp [chaConst] at h; omega
  · exact hl _ _ h
  · omega
  · exact hl _ _ h
theorem wd_sums (M S : List Nat) (j : Nat) (h : j < 16) : wd (sumsW M S) j = (wd M j + wd S j) % 4294967296 := by
  rw [wd_eq (sumsW M S) j (by simp [sumsW]; exact h)]; simp [sumsW]
theorem length_sumsW (M S : List Nat) : (sumsW M S).length = 16 := by simp [sumsW]

set_option maxHeartbeats 8000000 in
theorem sBlock_in (k n : ByteArray) (c : Nat) (w : World) (hk : k.size = 32) (hn : n.size = 12) (hc : c < 4294967296) :
    Calls Tryd.prog 111 #[.string k, .int .i64 c, .string n] w (StrPost w (chaB (bl k) c (bl n))) := by
  go_enter Tryd.func111, Tryd.ntmps111
  go_wp2_with fail
  go_loopw [7, 8] (fun v i wr => ∃ j : Nat, j ≤ 8 ∧ i = .int .i64 j ∧ Hid (OwnsW w.heap.size wr v (chaConst ++ leWs (bl k) j)) ∧ Hid (Below w.heap.size w wr) ∧ w.heap.size ≤ wr.heap.size) (fun _ i _ => 8 - (intOf i).toNat)
  case atStart => exact ⟨0, by omega, rfl, OwnsW.lit w.heap.size w chaConst (Nat.le_refl _) (by decide), (Below.refl _ _).alloc (Nat.le_refl _) _, by simp⟩
  case round =>
    obtain ⟨j, hj, rfl, HO, HB, hsz⟩ := hrel
    by_cases hlt : j < 8
    · have hl : (chaConst ++ leWs (bl k) j).length + 1 ≤ 1099511627776 := by rw [List.length_append, length_leWs]; show 4 + j + 1 ≤ _; omega
      go_wp2_with fail
      refine (sLittleI k (4 * j) _ (by omega) (by omega) (by unfold maxLen; omega) _).mono ?_
      rintro e w1 ⟨rfl, hw1⟩
      have HO1 : Hid (OwnsW w.heap.size w1 u7 (chaConst ++ leWs (bl k) j)) := by rw [hw1]; exact HO.out.drew
      have HB1 : Hid (Below w.heap.size w w1) := by rw [hw1]; exact HB.out.drew
      have hs1 : w.heap.size ≤ w1.heap.size := by rw [hw1]; exact hsz
      clear hw1 HO HB hsz
      go_wp2_with (at_builtin; refine appendW rfl (.tmp 19) (.tmp 24) rfl w.heap.size w w1 _ (chaConst ++ leWs (bl k) j) [leW (bl k) (4 * j)] 1 _ rfl rfl HO1 HB1 hs1 rfl rfl hl ?_; intro v' w' HO' HB' hsz')
      go_roundw
      case rel => exact ⟨j + 1, by omega, by go_num, by rw [leWs_succ, ← List.append_assoc]; exact HO', HB', by omega⟩
      case measure => simp [intOf]; omega
    · have e8 : j = 8 := by omega
      rw [e8] at HO
      clear e8
      go_wp2_with fail
      refine (sLittleI n 0 _ (by omega) (by omega) (by unfold maxLen; omega) _).mono ?_
      rintro e w1 ⟨rfl, hw1⟩
      go_wp2_with fail
      refine (sLittleI n 4 _ (by omega) (by omega) (by unfold maxLen; omega) _).mono ?_
      rintro e w2 ⟨rfl, hw2⟩
      go_wp2_with fail
      refine (sLittleI n 8 _ (by omega) (by omega) (by unfold maxLen; omega) _).mono ?_
      rintro e w3 ⟨rfl, hw3⟩
      have HO3 : Hid (OwnsW w.heap.size w3 u7 (chaConst ++ leWs (bl k) 8)) := by rw [hw3]; exact HO.out.drew.drew.drew
      have HB3 : Hid (Below w.heap.size w w3) := by rw [hw3]; exact HB.out.drew.drew.drew
      have hs3 : w.heap.size ≤ w3.heap.size := by rw [hw3]; exact hsz
      clear hw1 hw2 hw3 HO HB hsz
      obtain ⟨S, hS⟩ : ∃ S, S = chaStart (bl k) c (bl n) := ⟨_, rfl⟩
      have HS := hide hS
      have HF := hide (show Fit S by rw [hS]; exact fit_chaStart _ _ _ hc)
      have HL := hide (show S.length = 16 by rw [hS, length_chaStart])
      have HE := hide (show chaConst ++ leWs (bl k) 8 ++ [c, leW (bl n) 0, leW (bl n) 4, leW (bl n) 8] = S by rw [hS, chaStart, List.append_assoc _ [c]]; rfl)
      clear hS
      have hl4 : (chaConst ++ leWs (bl k) 8).length + 4 ≤ 1099511627776 := by rw [List.length_append, length_leWs, show chaConst.length = 4 from rfl]; omega
      go_wp2_with (at_builtin; first
        | (refine appendW rfl (.tmp 26) (.tmp 34) rfl w.heap.size w w3 _ (chaConst ++ leWs (bl k) 8) [c, leW (bl n) 0, leW (bl n) 4, leW (bl n) 8] 4 _ rfl rfl HO3 HB3 hs3 rfl rfl hl4 ?_; intro v4 w4 HO4 HB4 hs4; rw [HE.out] at HO4; obtain ⟨gs, caps, tls, rfl, hBs, hgs, hws⟩ := HO4.out.words (by rw [HL.out]; omega); rw [HL.out]; have HW4 := hide hws; clear hws HO3 HB3)
        | (refine appendCopy rfl (.tmp 36) (.tmp 37) rfl w4 S 16 caps gs tls rfl rfl HW4 hgs HL.out (by omega) ?_; intro v5 w5 HO5 HB5 hs5; obtain ⟨gw, capw, tlw, rfl, hBw, hgw, hww⟩ := HO5.out.words (by rw [HL.out]; omega); rw [HL.out]; have HW5 := hide hww; clear hww))
      have HQ5 := hide (show QPost .i64 3 tlw w5 gw S w5 from ⟨HW5.out, HL.out, HF.out, Below.refl _ _, rfl⟩)
      go_loopw [9, 10] (fun v i wr => ∃ j : Nat, j ≤ 10 ∧ v = .slice (some ⟨gw, 0, none⟩) 16 capw ∧ i = .int .i64 j ∧ Hid (QPost .i64 3 tlw w5 gw (drounds S j) wr)) (fun _ i _ => 10 - (intOf i).toNat)
      case atStart => exact ⟨0, by omega, rfl, rfl, HQ5⟩
      case round =>
        obtain ⟨j, hj, rfl, rfl, HR⟩ := hrel
        by_cases hlt : j < 10
        · obtain ⟨L0, e0⟩ : ∃ X, X = drounds S j := ⟨_, rfl⟩
          rw [← e0] at HR
          have E0 := hide e0
          clear e0
          go_wp2_with fail
          refine (sQuarter 3 tlw gw capw 0 4 8 12 _ _ _ HR.out (by omega) (by omega) (by omega) (by omega)).mono ?_
          rintro e q0 ⟨rfl, hq⟩
          obtain ⟨L1, e1⟩ : ∃ X, X = quarter L0 0 4 8 12 := ⟨_, rfl⟩
          rw [← e1] at hq
          have E1 := hide e1
          clear HR e1
          have HR := hide hq
          clear hq
          go_wp2_with fail
          refine (sQuarter 3 tlw gw capw 1 5 9 13 _ _ _ HR.out (by omega) (by omega) (by omega) (by omega)).mono ?_
          rintro e q1 ⟨rfl, hq⟩
          obtain ⟨L2, e2⟩ : ∃ X, X = quarter L1 1 5 9 13 := ⟨_, rfl⟩
          rw [← e2] at hq
          have E2 := hide e2
          clear HR e2
          have HR := hide hq
          clear hq
          go_wp2_with fail
          refine (sQuarter 3 tlw gw capw 2 6 10 14 _ _ _ HR.out (by omega) (by omega) (by omega) (by omega)).mono ?_
          rintro e q2 ⟨rfl, hq⟩
          obtain ⟨L3, e3⟩ : ∃ X, X = quarter L2 2 6 10 14 := ⟨_, rfl⟩
          rw [← e3] at hq
          have E3 := hide e3
          clear HR e3
          have HR := hide hq
          clear hq
          go_wp2_with fail
          refine (sQuarter 3 tlw gw capw 3 7 11 15 _ _ _ HR.out (by omega) (by omega) (by omega) (by omega)).mono ?_
          rintro e q3 ⟨rfl, hq⟩
          obtain ⟨L4, e4⟩ : ∃ X, X = quarter L3 3 7 11 15 := ⟨_, rfl⟩
          rw [← e4] at hq
          have E4 := hide e4
          clear HR e4
          have HR := hide hq
          clear hq
          go_wp2_with fail
          refine (sQuarter 3 tlw gw capw 0 5 10 15 _ _ _ HR.out (by omega) (by omega) (by omega) (by omega)).mono ?_
          rintro e q4 ⟨rfl, hq⟩
          obtain ⟨L5, e5⟩ : ∃ X, X = quarter L4 0 5 10 15 := ⟨_, rfl⟩
          rw [← e5] at hq
          have E5 := hide e5
          clear HR e5
          have HR := hide hq
          clear hq
          go_wp2_with fail
          refine (sQuarter 3 tlw gw capw 1 6 11 12 _ _ _ HR.out (by omega) (by omega) (by omega) (by omega)).mono ?_
          rintro e q5 ⟨rfl, hq⟩
          obtain ⟨L6, e6⟩ : ∃ X, X = quarter L5 1 6 11 12 := ⟨_, rfl⟩
          rw [← e6] at hq
          have E6 := hide e6
          clear HR e6
          have HR := hide hq
          clear hq
          go_wp2_with fail
          refine (sQuarter 3 tlw gw capw 2 7 8 13 _ _ _ HR.out (by omega) (by omega) (by omega) (by omega)).mono ?_
          rintro e q6 ⟨rfl, hq⟩
          obtain ⟨L7, e7⟩ : ∃ X, X = quarter L6 2 7 8 13 := ⟨_, rfl⟩
          rw [← e7] at hq
          have E7 := hide e7
          clear HR e7
          have HR := hide hq
          clear hq
          go_wp2_with fail
          refine (sQuarter 3 tlw gw capw 3 4 9 14 _ _ _ HR.out (by omega) (by omega) (by omega) (by omega)).mono ?_
          rintro e q7 ⟨rfl, hq⟩
          obtain ⟨L8, e8⟩ : ∃ X, X = quarter L7 3 4 9 14 := ⟨_, rfl⟩
          rw [← e8] at hq
          have E8 := hide e8
          clear HR e8
          have HR := hide hq
          clear hq
          go_wp2_with fail
          go_roundw
          case rel => exact ⟨j + 1, by omega, rfl, by go_num, by rw [show drounds S (j + 1) = L8 by rw [E8.out, E7.out, E6.out, E5.out, E4.out, E3.out, E2.out, E1.out, E0.out]; exact dround_eq (drounds S j)]; exact HR⟩
          case measure => simp [intOf]; omega
        · obtain ⟨w6, e6⟩ : ∃ X, X = wr := ⟨_, rfl⟩
          subst e6
          obtain ⟨M, hM⟩ : ∃ X, X = drounds S j := ⟨_, rfl⟩
          rw [← hM] at HR
          rw [show j = 10 by omega] at hM
          obtain ⟨F, hF⟩ : ∃ X, X = sumsW M S := ⟨_, rfl⟩
          have HFl := hide (show F.length = 16 by rw [hF, length_sumsW])
          have HFw := hide (show ∀ i, i < 16 → wd F i = (wd M i + wd S i) % 4294967296 from fun i hi => by rw [hF]; exact wd_sums M S i hi)
          have HFe := hide (show wBytes F = chaB (bl k) c (bl n) by rw [hF, hM, HS.out]; rfl)
          clear hM hF
          have HWm := hide HR.out.1
          have HMf := hide HR.out.2.2.1
          have hg6 : gw < w6.heap.size := by rw [HR.out.2.2.2.2]; exact hgw
          have HWs := hide ((HW4.out.below HB5.out hgs).below HR.out.2.2.2.1 (by omega))
          have hgs6 : gs < w6.heap.size := by omega
          have HB6 := hide ((HB4.out.trans (HB5.out.mono (by omega))).trans (HR.out.2.2.2.1.mono (by omega)))
          have hML := hide HR.out.2.1
          clear HR HW4 HB4 HB5 HQ5 HO4 HO5 HW5
          go_wp2_with fail
          go_loopw [11, 12, 13] (fun v i _ wq => ∃ j : Nat, j ≤ 16 ∧ i = .int .i64 j ∧ Hid (Owns8 w6.heap.size wq v (wBytes (F.take j))) ∧ Hid (Below w6.heap.size w6 wq) ∧ w6.heap.size ≤ wq.heap.size) (fun _ i _ _ => 16 - (intOf i).toNat)
          case atStart => exact ⟨0, by omega, rfl, Owns8.lit w6.heap.size w6 [] (Nat.le_refl _) (by decide), (Below.refl _ _).alloc (Nat.le_refl _) _, by simp⟩
          case round =>
            obtain ⟨j, hj, rfl, HO, HB, hsz⟩ := hrel
            by_cases hlt : j < 16
            · go_wp2_with fail
              have i1 : (j : Int) < 16 := by omega
              have c1 := (HWm.out.below HB.out hg6).cell j (by rw [hML.out]; exact hlt)
              have c2 := (HWs.out.below HB.out hgs6).cell j (by rw [HL.out]; exact hlt)
              have b1 := HMf.out.wd j
              have b2 := HF.out.wd j
              have hx : IntKind.i64.wrap ((wd M j : Nat) + (wd S j : Nat)) = ((wd M j + wd S j : Nat) : Int) := by rw [IntKind.wrap_i64]; omega
              have hr := fun W => (l3Word_any (wd M j + wd S j) (by omega) W).mono fun _ _ h => (⟨h.1, h.2.symm⟩ : _ ∧ _)
              have HT := hide (wBytes_take F j (by rw [HFl.out]; exact hlt))
              have hb4 := Nat.mod_lt (wd M j + wd S j) (show 4294967296 > 0 by omega)
              rw [← HFw.out j hlt] at hr hb4
              generalize wd F j = x at hr HT hb4
              have HC := hide (word4_arr x hb4)
              have hln : (wBytes (F.take j)).length + 4 ≤ 1099511627776 := by rw [length_wBytes, List.length_take]; omega
              refine wp_region_still_lit (by kernel_rfl) (by kernel_rfl) ?_
              iterate 9 still_step
              still_call (hr _)
              still_step
              refine wpStill_nil ?_
              clear c1 c2 b1 b2 hx hr
              have m0 : bits .and .i64 (x : Int) 255 = (x : Int) % 256 := by rw [mask8 x (by omega)]; omega
              have m1 : bits .and .i64 ((x : Int) / 256) 255 = (x : Int) / 256 % 256 := by
                have := mask8 (x / 256) (by omega)
                rw [Int.natCast_emod, Int.natCast_ediv] at this
                exact this
              have m2 : bits .and .i64 ((x : Int) / 65536) 255 = (x : Int) / 65536 % 256 := by
                have := mask8 (x / 65536) (by omega)
                rw [Int.natCast_emod, Int.natCast_ediv] at this
                exact this
              obtain ⟨w7, e7⟩ : ∃ X, X = wr.drew := ⟨_, rfl⟩
              have HO7 : Hid (Owns8 w6.heap.size w7 u11 (wBytes (F.take j))) := by rw [e7]; exact HO.out.drew
              have HB7 : Hid (Below w6.heap.size w6 w7) := by rw [e7]; exact HB.out.drew
              have hs7 : w6.heap.size ≤ w7.heap.size := by rw [e7]; exact hsz
              change Exit.then _ _ _ _ wr.drew
              rw [← e7]
              clear e7 HO HB hsz
              go_wp2_with (at_builtin; refine append8 rfl (.tmp 74) (.tmp 89) rfl w6.heap.size w6 w7 _ (wBytes (F.take j)) (word4 x) 4 _ rfl rfl HO7 HB7 hs7 HC.out rfl hln ?_; intro v' w' HO' HB' hsz')
              go_roundw
              case rel => exact ⟨j + 1, by omega, by go_num, by rw [HT.out]; exact HO', HB', by omega⟩
              case measure => simp [intOf]; omega
            · rw [show j = 16 by omega, show F.take 16 = F from List.take_of_length_le (by rw [HFl.out]; omega)] at HO
              have hcv := run_convOwn w6.heap.size wr _ _ HO.out
              go_wp2_with fail
              go_ret
              exact ⟨by rw [← HFe.out]; rfl, HB6.out.trans (HB.out.mono HB6.out.size)⟩
end Go.Proofs.YtakjjfbocokpaaaDoor

/-
  Contract of spec.ChaBlock, whatever its arguments.
-/
namespace Go.Proofs.YtakjjfbocokpaaaDoor
open Go.ChangeShapes Go.WideShapes Go.ChangeAt Go.RowKit
set_option maxRecDepth 100000

theorem sBlock_no (k n : ByteArray) (c : Int) (w : World) (h : ¬ BlockOk (bl k) c (bl n)) :
    Calls Tryd.prog 90 #[.string k, .int .i64 c, .string n] w (StrPost w []) := by
  unfold BlockOk at h
  rw [bl_len, bl_len] at h
  cases d1 : ((k.size : Int) != 32) <;> cases d2 : ((n.size : Int) != 12) <;> cases d3 : (decide (0 ≤ c) && decide (c ≤ 4294967295))
  all_goals first
    | (exfalso; simp at d1 d2 d3; omega)
    | (clear h
       go_enter Tryd.func90, Tryd.ntmps90
       go_wp2_with (go_at_call 52; refine (l1In_any _ _ _ _).mono ?_; rw [d3]; rintro e w' ⟨rfl, rfl⟩)
       go_ret
       exact ⟨rfl, Below.refl _ _⟩)

theorem sBlock_any (k n : ByteArray) (c : Int) (w : World) :
    Calls Tryd.prog 90 #[.string k, .int .i64 c, .string n] w (StrPost w (blockV (bl k) c (bl n))) := by
  unfold blockV
  split
  · rename_i h
    obtain ⟨h1, h2, h3, h4⟩ := h
    rw [bl_len] at h1 h2
    have hB := sBlock_in k n c.toNat w h1 h2 (by omega)
    rw [Int.toNat_of_nonneg h3] at hB
    have HB := hide hB
    have d1 : ((k.size : Int) != 32) = false := by rw [h1]; rfl
    have d2 : ((n.size : Int) != 12) = false := by rw [h2]; rfl
    have d3 : (decide (0 ≤ c) && decide (c ≤ 4294967295)) = true := by simp; omega
    clear hB h1 h2 h3 h4
    go_enter Tryd.func90, Tryd.ntmps90
    go_wp2_with (first | (go_at_call 52; refine (l1In_any _ _ _ _).mono ?_; rw [d3]; rintro e w' ⟨rfl, rfl⟩) | (go_at_call 111; refine HB.out.mono ?_; rintro e w1 ⟨rfl, hb1⟩; have HB1 := hide hb1; clear hb1))
    go_ret
    exact ⟨rfl, HB1.out⟩
  · rename_i h; exact sBlock_no k n c w h
end Go.Proofs.YtakjjfbocokpaaaDoor
