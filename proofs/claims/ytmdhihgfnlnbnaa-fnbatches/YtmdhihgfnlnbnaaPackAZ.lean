/-
  Texts of this proof, put together: ShelfS.
-/
import Derived.Test.YtmdhihgfnlnbnaaPackAX
import Derived.Test.YtmdhihgfnlnbnaaPackAY
import Derived.Test.YtmdhihgfnlnbnaaPackAF

/-
  slices.BinarySearch, Insert and Delete at []string, on rows that the call owns: out of the shelf's contracts.
-/
namespace Go.Proofs.Ytmdhihgfnlnbnaa
open Go.ChangeShapes Go.WideShapes Go.ChangeAt Go.RowKit

/-- what a binary search finds in the keys of a sorted map -/
theorem search_pos {L : List KV} (hs : Srt L) (k : ByteArray) (Sx : Nat → ByteArray) (hS : ∀ j (h : j < L.length), Sx j = L[j].1) :
    Lib.bsGo (fun t => Op.bytesLess (Sx t).toList k.toList) L.length 0 L.length = posK k L := by
  have e : Lib.bsGo (fun t => Op.bytesLess (Sx t).toList k.toList) L.length 0 L.length = Lib.bsGo (fun t => decide (t < posK k L)) L.length 0 L.length := by
    have key : ∀ (f lo hi : Nat), hi ≤ L.length → Lib.bsGo (fun t => Op.bytesLess (Sx t).toList k.toList) f lo hi = Lib.bsGo (fun t => decide (t < posK k L)) f lo hi := by
      intro f
      induction f with
      | zero => intro lo hi _; rfl
      | succ f ih =>
        intro lo hi hhi
        unfold Lib.bsGo
        by_cases h : lo < hi
        · rw [if_pos h, if_pos h]
          have hm : (lo + hi) / 2 < L.length := by omega
          have hc : Op.bytesLess (Sx ((lo + hi) / 2)).toList k.toList = decide ((lo + hi) / 2 < posK k L) := by
            rw [hS _ hm]
            show kless _ k = _
            by_cases hp : (lo + hi) / 2 < posK k L
            · rw [posK_before k L _ hm hp, decide_eq_true hp]
            · rw [posK_after hs _ hm (by omega), decide_eq_false hp]
          rw [hc, ih _ _ hhi, ih _ _ (by omega)]
        · rw [if_neg h, if_neg h]
    exact key _ _ _ (Nat.le_refl _)
  rw [e]
  exact Lib.bsGo_spec _ _ (fun t h => decide_eq_true h) (fun t h => decide_eq_false (by omega)) _ _ _ (by omega) (by omega) (posK_le k L)

theorem search_any {B : Nat} {v : Value} (L : List KV) (hs : Srt L) (k : ByteArray) (w : World) (ho : elStr.Owns B w v (L.map Prod.fst)) (hl : L.length ≤ 1099511627776) :
    Calls Try.prog 72 #[v, .string k] w fun e w' => e = .returned (.tuple #[.int .i64 (posK k L : Nat), .bool (decide (hasK k L))]) ∧ Below w.heap.size w w' := by
  rcases ownStr_open ho with ⟨rfl, h0⟩ | ⟨g, cap, cur, rfl, hB, hg, hh, hn, hm, hsz, ht⟩
  · have hL : L = [] := by simpa using h0
    subst hL
    refine (show Calls Try.prog 72 #[.slice none 0 0, .string k] w _ from Any2.slices_BinarySearch_string_empty Try.laysNm226 none 0 k w).mono ?_
    rintro e w' ⟨rfl, rfl⟩
    exact ⟨rfl, Below.refl _ _⟩
  · rw [List.length_map] at hn ht
    have hS : ∀ j (h : j < L.length), (fun j => ((L.map Prod.fst)[j]?).getD ⟨#[]⟩) j = L[j].1 := fun j h => by simp [h]
    have hc : ∀ j, j < L.length → w.cell? ⟨g, 0 + j, none⟩ = some (.string ((fun j => ((L.map Prod.fst)[j]?).getD ⟨#[]⟩) j)) := fun j hj => by
      rw [Nat.zero_add, ownStr_cell (L := L.map Prod.fst) hh (by rw [List.length_map]; exact ht) j (by rw [List.length_map]; exact hj)]
      simp [hj]
    rw [List.length_map]
    refine (show Calls Try.prog 72 #[.slice (some ⟨g, 0, none⟩) L.length cap, .string k] w _ from Any2.slices_BinarySearch_string Try.laysNm226 g 0 L.length cap _ k w (by omega) hc).mono ?_
    rintro e w' ⟨rfl, q, rfl⟩
    refine ⟨?_, ⟨rfl, rfl, rfl, Nat.le_refl _, fun _ _ => rfl⟩⟩
    rw [search_pos hs k _ hS]
    congr 5
    refine congrArg Value.bool (decide_eq_decide.2 ?_)
    constructor
    · rintro ⟨h1, h2⟩
      exact ⟨h1, by rw [← hS _ h1]; exact h2⟩
    · rintro ⟨h1, h2⟩
      exact ⟨h1, (hS _ h1).trans h2⟩

def InsPost (B : Nat) (w : World) (v : Value) (M : List ByteArray) (e : Ending) (w' : World) : Prop := ∃ v', e = .returned v' ∧ elStr.Owns B w' v' M ∧ Only v.ownBlock w w' ∧ B ≤ w'.heap.size ∧ ∀ a, v'.ownBlock = some a → v.ownBlock = some a ∨ w.heap.size ≤ a
theorem holds_str {w : World} {vb : Nat} {x : ByteArray} (h : elStr.Holds w vb [x]) : w.heap[vb]? = some (.cells #[.string x] 9 (0, 0)) := h
theorem map_ins (L : List ByteArray) (i : Nat) (x : ByteArray) : (L.take i ++ x :: L.drop i).map Value.string = (L.map Value.string).take i ++ [.string x] ++ (L.map Value.string).drop i := by simp [List.map_take, List.map_drop]
theorem take_len {α : Type} {a b : List α} {n : Nat} (h : a.length = n) : (a ++ b).take n = a := by rw [← h]; exact List.take_left
theorem drop_len {α : Type} {a b : List α} {n : Nat} (h : a.length = n) : (a ++ b).drop n = b := by rw [← h]; exact List.drop_left
theorem shift_list {cur : Array Value} {cs : List Value} {n i : Nat} (x : Value) (hC : cur.toList.take n = cs) (hl : cs.length = n) (hi : i < n) (hn : n + 1 ≤ cur.size) :
    (putAll (putAll cur (i + 1) (cs.drop i)) i [x]).toList.take (n + 1) = cs.take i ++ [x] ++ cs.drop i := by
  have hdl : (cs.drop i).length = n - i := by rw [List.length_drop, hl]
  have hCl : cur.toList.length = cur.size := Array.length_toList
  have e1 := putAll_list (cs.drop i) cur (i + 1) (by omega)
  rw [putAll_list [x] _ i (by rw [size_putAll]; simp; omega), e1]
  have a1 : (cur.toList.take (i + 1)).length = i + 1 := by rw [List.length_take]; omega
  have a2 : (cur.toList.take (i + 1) ++ cs.drop i ++ cur.toList.drop (i + 1 + (cs.drop i).length)).take i = cs.take i := by
    rw [List.append_assoc, List.take_append_of_le_length (by omega), List.take_take, ← hC, List.take_take]
    congr 1
    omega
  have a3 : (cur.toList.take (i + 1) ++ cs.drop i ++ cur.toList.drop (i + 1 + (cs.drop i).length)).drop (i + 1) = cs.drop i ++ cur.toList.drop (i + 1 + (cs.drop i).length) := by
    rw [List.append_assoc]
    exact drop_len a1
  rw [a2, show i + ([x] : List Value).length = i + 1 from rfl, a3, ← List.append_assoc]
  exact take_len (by simp [hl]; omega)
theorem end_list {cur : Array Value} {cs : List Value} {n : Nat} (x : Value) (hC : cur.toList.take n = cs) (hl : cs.length = n) (hn : n + 1 ≤ cur.size) : (putAll cur n [x]).toList.take (n + 1) = cs ++ [x] := by
  rw [putAll_list [x] cur n (by simp; omega), hC]
  exact take_len (by simp [hl])
theorem grow_list {cur : Array Value} {cs : List Value} {n i : Nat} (x : Value) (hC : cur.toList.take i = cs.take i) (hl : cs.length = n) (hi : i < n) (hn : n + 1 ≤ cur.size) :
    (putAll (putAll cur i [x]) (i + 1) (cs.drop i)).toList.take (n + 1) = cs.take i ++ [x] ++ cs.drop i := by
  have hdl : (cs.drop i).length = n - i := by rw [List.length_drop, hl]
  have e1 := putAll_list [x] cur i (by simp; omega)
  rw [putAll_list (cs.drop i) _ (i + 1) (by rw [size_putAll]; omega), e1, hC]
  have a1 : (cs.take i ++ [x]).length = i + 1 := by simp [hl]; omega
  rw [take_len a1]
  exact take_len (by simp [hl]; omega)
set_option maxHeartbeats 1000000 in
theorem insert_any {B : Nat} {v : Value} (L : List ByteArray) (i : Nat) (x : ByteArray) (vb : Nat) (w : World) (ho : elStr.Owns B w v L) (hB : B ≤ w.heap.size) (hi : i ≤ L.length) (hl : L.length ≤ 1099511627776) (hx : elStr.Holds w vb [x]) (hne : v.ownBlock ≠ some vb) :
    Calls Try.prog 74 #[v, .int .i64 i, .slice (some ⟨vb, 0, none⟩) 1 1] w (InsPost B w v (L.take i ++ x :: L.drop i)) := by
  have hxb := holds_str hx
  have hvs : ∀ j u, ([Value.string x] : List Value)[j]? = some u → w.cell? ⟨vb, 0 + j, none⟩ = some u := fun j u hj => by
    cases j with
    | zero =>
      have := Option.some.inj hj
      subst this
      simp [World.cell?, hxb]
    | succ j => simp at hj
  have h1v : ∀ u ∈ ([Value.string x] : List Value), u.oneCell' = true := fun u hu => by
    rw [List.mem_singleton.1 hu]; rfl
  have hlen : (L.take i ++ x :: L.drop i).length = L.length + 1 := by simp; omega
  have hmx : L.length + 1 ≤ maxLen := by unfold maxLen; omega
  rcases ownStr_open ho with ⟨rfl, rfl⟩ | ⟨g, cap, cur, rfl, hBg, hg, hh, hn, hm, hsz, ht⟩
  · obtain rfl : i = 0 := by simpa using hi
    refine (show Calls Try.prog 74 #[.slice none 0 0, .int .i64 (0 : Nat), .slice (some ⟨vb, 0, none⟩) 1 1] w _ from Any2.slices_Insert_string_end_grow Try.laysNm222 none 0 0 vb 0 1 1 [] [.string x] w (by omega) (by omega) (by omega) (by omega) rfl rfl (fun _ => rfl) (fun a ha => by cases ha) hvs h1v).mono ?_
    rintro e w' ⟨rfl, rfl⟩
    refine ⟨_, rfl, ?_, ?_, ?_, fun a ha => .inr (Nat.le_of_eq (Option.some.inj ha))⟩
    · refine ownStr _ (by omega) (Go.Deep.blk_alloc_new w.drew _) rfl (grownCap_ge _ _ _ _) (grownCap_le_maxLen _ _ _ _ (by unfold maxLen; omega)) ?_ ?_
      · simp [size_zeroCells]
        have := grownCap_ge w 1 0 9
        show 1 + (grownCap w 1 0 9 - 1) * (Value.string ⟨#[]⟩).cells.size = grownCap w 1 0 9
        rw [show (Value.string ⟨#[]⟩).cells.size = 1 from rfl]
        omega
      · simp
    · exact ((Only.none_alloc w.drew _).of_drew).widen
    · simp; omega
  · have hcl : (L.map Value.string).length = L.length := by rw [List.length_map]
    have hcs : ∀ j u, (L.map Value.string)[j]? = some u → w.cell? ⟨g, 0 + j, none⟩ = some u := fun j u hj => by
      obtain ⟨hj', rfl⟩ := List.getElem?_eq_some_iff.1 hj
      rw [List.length_map] at hj'
      rw [Nat.zero_add, ownStr_cell hh ht j hj']
      simp
    have h1c : ∀ u ∈ L.map Value.string, u.oneCell' = true := fun u hu => by
      obtain ⟨y, _, rfl⟩ := List.mem_map.1 hu
      rfl
    have hfz : ∀ j, w.frozen? ⟨g, j, none⟩ = false := fun j => frozen_of_row w g j _ _ hh
    have hgv : vb ≠ g := fun e => hne (by rw [e]; rfl)
    have hfv : ∀ j, w.frozen? ⟨vb, j, none⟩ = false := fun j => frozen_of_row w vb j _ _ hxb
    have hz1 : (Value.string ⟨#[]⟩).cells.size = 1 := rfl
    by_cases hroom : L.length + 1 ≤ cap
    · by_cases hin : i < L.length
      · refine (show Calls Try.prog 74 #[.slice (some ⟨g, 0, none⟩) L.length cap, .int .i64 i, .slice (some ⟨vb, 0, none⟩) 1 1] w _ from
          Any2.slices_Insert_string_shift Try.laysNm222 g 0 L.length cap i vb 0 1 1 (L.map Value.string) [.string x] w hin (by omega) hroom (by unfold maxLen at hm; omega) hgv hcl rfl hcs
            (fun j hj => by rw [Nat.zero_add]; exact cell_some hh j (by omega)) (fun j _ => by rw [Nat.zero_add]; exact hfz j) hvs h1c h1v 9 9 1 cur.size (shape_of hxb) (shape_of hh) (by omega) (hfv 0) (hfv 1)).mono ?_
        rintro e w' ⟨rfl, rfl⟩
        refine ⟨_, rfl, ?_, ?_, ?_, fun a ha => .inl ha⟩
        · refine ownStr _ hBg (heap_setCells_same g _ _ _ _ _ (heap_setCells_same g _ _ _ w.drew _ hh)) hlen hroom hm (by rw [size_putAll, size_putAll, hsz]) ?_
          rw [Nat.zero_add, Nat.zero_add, map_ins]
          exact shift_list _ ht hcl hin (by omega)
        · exact ((only_setCells g _ _ w.drew).trans (only_setCells g _ _ _)).of_drew
        · have := ((only_setCells g ((L.map Value.string).drop i) (0 + (i + 1)) w.drew).trans (only_setCells g [.string x] (0 + i) _)).size
          exact Nat.le_trans hB this
      · obtain rfl : i = L.length := by omega
        refine (show Calls Try.prog 74 #[.slice (some ⟨g, 0, none⟩) L.length cap, .int .i64 L.length, .slice (some ⟨vb, 0, none⟩) 1 1] w _ from
          Any2.slices_Insert_string_end_room Try.laysNm222 g 0 L.length cap vb 0 1 1 [.string x] w (by omega) hroom (by unfold maxLen at hm; omega) rfl
            (fun j hj => by rw [Nat.zero_add]; exact cell_some hh _ (by omega)) (fun j _ => by rw [Nat.zero_add]; exact hfz _) hvs h1v).mono ?_
        rintro e w' ⟨rfl, rfl⟩
        refine ⟨_, rfl, ?_, ?_, ?_, fun a ha => .inl ha⟩
        · refine ownStr _ hBg (heap_setCells_same g _ _ _ w _ hh) hlen hroom hm (by rw [size_putAll, hsz]) ?_
          rw [Nat.zero_add, List.take_length, List.drop_length, List.map_append]
          exact end_list _ ht hcl (by omega)
        · exact only_setCells g _ _ w
        · exact Nat.le_trans hB (only_setCells g _ _ w).size
    · by_cases hin : i < L.length
      · refine (show Calls Try.prog 74 #[.slice (some ⟨g, 0, none⟩) L.length cap, .int .i64 i, .slice (some ⟨vb, 0, none⟩) 1 1] w _ from
          Any2.slices_Insert_string_grow Try.laysNm222 g 0 L.length cap i vb 0 1 1 (L.map Value.string) [.string x] w hin (by omega) hn (by omega) (by omega) hcl rfl hcs hvs h1c h1v).mono ?_
        rintro e w' ⟨rfl, rfl⟩
        have hge := grownCap_ge w (L.length + 1) cap 9
        have hsize : (((L.map Value.string).take i).toArray ++ Builtin.zeroCells (Value.string ⟨#[]⟩).cells (L.length + 1 - i) ++ Builtin.zeroCells (Value.string ⟨#[]⟩).cells (grownCap w (L.length + 1) cap 9 - (L.length + 1))).size = grownCap w (L.length + 1) cap 9 := by
          rw [Array.size_append, Array.size_append, size_zeroCells, size_zeroCells, hz1, List.size_toArray, List.length_take, hcl]
          omega
        have h0 : ((w.alloc (.cells (((L.map Value.string).take i).toArray ++ Builtin.zeroCells (Value.string ⟨#[]⟩).cells (L.length + 1 - i) ++ Builtin.zeroCells (Value.string ⟨#[]⟩).cells (grownCap w (L.length + 1) cap 9 - (L.length + 1))) 9)).drew).heap[w.heap.size]? = _ := Go.Deep.blk_alloc_new w _
        refine ⟨_, rfl, ?_, ?_, ?_, fun a ha => .inr (Nat.le_of_eq (Option.some.inj ha))⟩
        · refine ownStr _ (by omega) (heap_setCells_same w.heap.size _ _ _ _ _ (show (World.drew _).heap[w.heap.size]? = _ from heap_setCells_same w.heap.size _ _ _ _ _ h0)) hlen hge (grownCap_le_maxLen _ _ _ _ hmx) (by rw [size_putAll, size_putAll]; exact hsize) ?_
          rw [map_ins]
          refine grow_list _ ?_ hcl hin (by rw [hsize]; exact hge)
          rw [Array.toList_append, Array.toList_append, List.append_assoc]
          exact take_len (by rw [List.length_take, hcl]; omega)
        · have h1 := (Only.none_alloc w (.cells (((L.map Value.string).take i).toArray ++ Builtin.zeroCells (Value.string ⟨#[]⟩).cells (L.length + 1 - i) ++ Builtin.zeroCells (Value.string ⟨#[]⟩).cells (grownCap w (L.length + 1) cap 9 - (L.length + 1))) 9)).drew
          exact ((h1.fresh (only_setCells w.heap.size [.string x] i _)).drew.fresh (only_setCells w.heap.size _ _ _)).widen
        · have h1 := (Only.none_alloc w (.cells (((L.map Value.string).take i).toArray ++ Builtin.zeroCells (Value.string ⟨#[]⟩).cells (L.length + 1 - i) ++ Builtin.zeroCells (Value.string ⟨#[]⟩).cells (grownCap w (L.length + 1) cap 9 - (L.length + 1))) 9)).drew
          exact Nat.le_trans hB ((h1.fresh (only_setCells w.heap.size [.string x] i _)).drew.fresh (only_setCells w.heap.size ((L.map Value.string).drop i) (i + 1) _)).size
      · obtain rfl : i = L.length := by omega
        refine (show Calls Try.prog 74 #[.slice (some ⟨g, 0, none⟩) L.length cap, .int .i64 L.length, .slice (some ⟨vb, 0, none⟩) 1 1] w _ from
          Any2.slices_Insert_string_end_grow Try.laysNm222 (some ⟨g, 0, none⟩) L.length cap vb 0 1 1 (L.map Value.string) [.string x] w (by omega) hn (by omega) (by omega) hcl rfl (fun h => by cases h)
            (fun a ha j u hj => by obtain rfl := Option.some.inj ha; rw [addr_add]; exact hcs j u hj) hvs h1v).mono ?_
        rintro e w' ⟨rfl, rfl⟩
        have hge := grownCap_ge w (L.length + 1) cap 9
        refine ⟨_, rfl, ?_, ?_, ?_, fun a ha => .inr (Nat.le_of_eq (Option.some.inj ha))⟩
        · refine ownStr _ (by omega) (Go.Deep.blk_alloc_new w.drew _) hlen hge (grownCap_le_maxLen _ _ _ _ hmx) ?_ ?_
          · rw [Array.size_append, size_zeroCells, hz1, List.size_toArray, List.length_append, hcl]
            show L.length + 1 + (grownCap w (L.length + 1) cap 9 - (L.length + 1)) * 1 = grownCap w (L.length + 1) cap 9
            omega
          · rw [Array.toList_append, List.take_length, List.drop_length, List.map_append]
            exact take_len (by simp)
        · exact ((Only.none_alloc w.drew _).of_drew).widen
        · exact Nat.le_trans hB (by simp)

theorem del_list {cs : List Value} {C : List Value} {n i : Nat} (z : Value) (hl : cs.length = n) (hi : i < n) (cur : Array Value) (hn : n ≤ cur.size) (hC : C = cs.take i ++ cs.drop (i + 1) ++ [z]) :
    (putAll cur 0 C).toList.take (n - 1) = cs.take i ++ cs.drop (i + 1) := by
  have hCl : C.length = n := by rw [hC]; simp [hl]; omega
  rw [putAll_list C cur 0 (by omega), hC]
  simp only [List.take_zero, List.nil_append, List.append_assoc]
  rw [← List.append_assoc]
  exact take_len (by simp [hl]; omega)
set_option maxHeartbeats 1000000 in
theorem delete_any {B : Nat} {v : Value} (L : List ByteArray) (i : Nat) (w : World) (ho : elStr.Owns B w v L) (hB : B ≤ w.heap.size) (hi : i < L.length) :
    Calls Try.prog 73 #[v, .int .i64 i, .int .i64 ((i + 1 : Nat) : Int)] w (InsPost B w v (L.take i ++ L.drop (i + 1))) := by
  rcases ownStr_open ho with ⟨rfl, rfl⟩ | ⟨g, cap, cur, rfl, hBg, hg, hh, hn, hm, hsz, ht⟩
  · simp at hi
  · have hcl : (L.map Value.string).length = L.length := by rw [List.length_map]
    have hc : ∀ j, j < L.length → w.cell? ⟨g, 0 + j, none⟩ = some (.string ((fun j => (L[j]?).getD ⟨#[]⟩) j)) := fun j hj => by
      rw [Nat.zero_add, ownStr_cell hh ht j hj]
      simp [hj]
    have hS : (Lib.strsOf (fun j => (L[j]?).getD ⟨#[]⟩) L.length).map encStr = L.map Value.string := by
      apply List.ext_getElem
      · simp [Lib.strsOf]
      · intro j h1 h2
        rw [List.length_map] at h2
        simp [Lib.strsOf, h2, encStr]
    refine (show Calls Try.prog 73 #[.slice (some ⟨g, 0, none⟩) L.length cap, .int .i64 i, .int .i64 ((i + 1 : Nat) : Int)] w _ from
      Any.slices_Delete_string_cells Try.laysNm224 g 0 L.length cap i (i + 1) _ w hn (by unfold maxLen at hm; omega) (by omega) (by omega) hc (fun j _ => by rw [Nat.zero_add]; exact frozen_of_row w g j _ _ hh)).mono ?_
    rintro e w' ⟨rfl, q, rfl⟩
    have hlen : (L.take i ++ L.drop (i + 1)).length = L.length - (i + 1 - i) := by simp; omega
    refine ⟨_, rfl, ?_, ?_, ?_, fun a ha => .inl ha⟩
    · refine ownStr _ hBg (heap_setCells_same g _ _ _ (w.drewN q) _ hh) hlen (by omega) hm (by rw [size_putAll, hsz]) ?_
      rw [show L.length - (i + 1 - i) = L.length - 1 by omega, show (L.take i ++ L.drop (i + 1)).map Value.string = (L.map Value.string).take i ++ (L.map Value.string).drop (i + 1) by rw [List.map_append, List.map_take, List.map_drop]]
      refine del_list (.string ⟨#[]⟩) hcl hi cur (by omega) ?_
      rw [List.map_append, List.map_append, List.map_take, List.map_drop, hS, show i + 1 - i = 1 by omega]
      rfl
    · exact (only_setCells g _ _ (w.drewN q)).of_drewN
    · exact Nat.le_trans hB (only_setCells g _ _ (w.drewN q)).size
end Go.Proofs.Ytmdhihgfnlnbnaa
