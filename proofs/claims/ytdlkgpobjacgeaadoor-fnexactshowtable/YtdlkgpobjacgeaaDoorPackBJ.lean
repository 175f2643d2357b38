/-
  Texts of this proof, put together: TabH.
-/
import Derived.Test.YtdlkgpobjacgeaaDoorPackBI
import Derived.Test.YtdlkgpobjacgeaaDoorPackBF

/-
  slices.Chunk of entries, six at a time: its iterator's contract.
-/
namespace Go.Proofs.YtdlkgpobjacgeaaDoor
open Go.ChangeShapes Go.WideShapes Go.ChangeAt Go.RowKit Go.Shelf
attribute [local go_sem] Oper.semAt_some

/-- of the blocks below B, block g alone may have turned -/
structure Turn6 (B g : Nat) (w w' : World) : Prop where
  os : w'.os = w.os
  tape : w'.tape = w.tape
  output : w'.output = w.output
  size : w.heap.size ≤ w'.heap.size
  block : ∀ i, i < B → i ≠ g → w'.heap[i]? = w.heap[i]?
theorem Turn6.refl (B g : Nat) (w : World) : Turn6 B g w w := ⟨rfl, rfl, rfl, Nat.le_refl _, fun _ _ _ => rfl⟩
theorem Turn6.trans {B g : Nat} {a b c : World} (h : Turn6 B g a b) (k : Turn6 B g b c) : Turn6 B g a c :=
  ⟨k.os.trans h.os, k.tape.trans h.tape, k.output.trans h.output, Nat.le_trans h.size k.size, fun i hi hg => (k.block i hi hg).trans (h.block i hi hg)⟩
theorem Turn6.of_below {B B' g : Nat} {a b : World} (h : Below B' a b) (hB : B ≤ B') : Turn6 B g a b := ⟨h.os, h.tape, h.output, h.size, fun i hi _ => h.block i (by omega)⟩
theorem Turn6.of_only {B g : Nat} {o : Option Nat} {a b : World} (h : Only o a b) (ho : ∀ k, o = some k → B ≤ k) (hB : B ≤ a.heap.size) : Turn6 B g a b :=
  Turn6.of_below (h.below ho hB) (Nat.le_refl _)
theorem Turn6.set {B g : Nat} (i : Nat) (w : World) (u : Value) : Turn6 B g w (w.setCell ⟨g, i, none⟩ u) :=
  ⟨rfl, rfl, rfl, by simp, fun j _ hj => heap_setCell_other w ⟨g, i, none⟩ j u hj⟩
theorem Turn6.below {B g : Nat} {a b : World} (h : Turn6 B g a b) (hg : B ≤ g) : Below B a b := ⟨h.os, h.tape, h.output, h.size, fun i hi => h.block i hi (by omega)⟩
theorem Turn6.box {B g b : Nat} {a w : World} {T : TypeId} {vs : Array Value} (h : Turn6 B g a w) (hx : BoxV T a b vs) (hb : b < B) (hg : b ≠ g) : BoxV T w b vs := (h.block b hb hg).trans hx
theorem Turn6.putObj {B g : Nat} (W : World) (l : Nat) (o' : Obj) (hl : B ≤ l) (hlt : l < W.heap.size) : Turn6 B g W (W.putObj l o') := by
  have h := grownBy_putObj' W l o'
  exact ⟨h.os, h.tape, h.output, h.size, fun i hi _ => h.block i (by omega) (fun e => by have := Option.some.inj e; omega)⟩

theorem runFromEnt (b off n cap p : Nat) (h1 : p < n) (h2 : n ≤ cap) (w : World) : (Instr.slice 29 (.slice (some ⟨b, off, none⟩) n cap) (some (.int .i64 (p : Int))) none none).run Tryd.prog w = .ok (.slice (some ⟨b, off + p * 4, none⟩) (n - p) (cap - p)) w := by
  obtain ⟨i0, hi0, hz0, hz1, hz2⟩ := info_parts infoEnt
  rw [run_slice_l (P := Tryd.prog) w 29 (some ⟨b, off, none⟩) n cap (by kernel_rfl) .i64 (p : Int) (by omega) (by omega)]
  rw [show Tryd.prog.elem 29 = 52 by kernel_rfl]
  have hne : cap ≠ p := by omega
  simp [sizeOf, typeInfo, hi0, hz1, sliced, hne, Addr.add]
theorem range_prefix {a b : Nat} (h : a ≤ b) : List.range a <+: List.range b := by
  obtain ⟨c, rfl⟩ : ∃ c, b = a + c := ⟨b - a, by omega⟩
  rw [List.range_add]
  exact List.prefix_append _ _
/-- a number of a chunk that is there -/
def cI (n k : Nat) : Nat := if 6 * k < n then k else 0
theorem cI_of {n k : Nat} (h : 6 * k < n) : cI n k = k := if_pos h
theorem cI_lt {n : Nat} (h : 0 < n) (k : Nat) : 6 * cI n k < n := by
  unfold cI
  split <;> omega
/-- chunk number k of n entries that lie from off on in block b, as it is handed over -/
def encC (b off n k : Nat) : Array Value := #[.slice (some ⟨b, off + 6 * cI n k * 4, none⟩) (min 6 (n - 6 * cI n k)) (min 6 (n - 6 * cI n k))]

set_option maxRecDepth 100000 in
set_option maxHeartbeats 2000000 in
theorem chunk1_in (n' : Nat) (hn : 1 ≤ n') (l Bs Bz gx n₀ b off cap n : Nat) (hn60 : n ≤ 60) (hcap : n ≤ cap) (J Jx : List Nat → World → Prop) (B : Nat) (hJ : AbidesFrom B J)
    (hY : ∀ pre x W, J pre W → pre.length < (n + 5) / 6 → YieldAt Fence.wide (n' - 1) Tryd.prog l (encC b off n x) W fun e W' =>
      (e = .returned (.bool true) ∧ J (pre ++ [x]) W' ∧ Turn6 n₀ gx W W') ∨ (e = .returned (.bool false) ∧ Jx (pre ++ [x]) W'))
    (W : World) (hBs : Bs < n₀) (hBz : Bz < n₀) (hne1 : Bs ≠ gx) (hne2 : Bz ≠ gx) (hc : W.cell? ⟨Bs, 0, none⟩ = some (.slice (some ⟨b, off, none⟩) n cap)) (hz : W.cell? ⟨Bz, 0, none⟩ = some (.int .i64 6)) (h0 : J [] W) :
    CallsIn Fence.wide n' Tryd.prog 83 #[.func (.yield l) #[] #[], .pointer (some ⟨Bs, 0, none⟩), .pointer (some ⟨Bz, 0, none⟩)] W fun e W' => (∃ v, e = .returned v) ∧
      ((∃ ys, ys = List.range ((n + 5) / 6) ∧ J ys W') ∨ (∃ pre, pre <+: List.range ((n + 5) / 6) ∧ Jx pre W')) := by
  refine callsIn_of_wp Tryd.func83 rfl trivial ?_ rfl
  simp only [Tryd.ntmps83, List.size_toArray, List.length_cons, List.length_nil, Nat.reduceAdd, Nat.reduceSub, Array.replicate_succ, Array.replicate_zero, List.push_toArray, List.append_toArray, List.nil_append, List.cons_append]
  gi_wp2
  gi_loopw [4] (fun q wr => ∃ k i : Nat, i = 6 * k ∧ k ≤ (n + 5) / 6 ∧ q = .int .i64 (i : Int) ∧ J (List.range k) wr ∧ Turn6 n₀ gx W wr) (fun q _ => n + 6 - (intOf q).toNat)
  case atStart => exact ⟨0, 0, rfl, by omega, rfl, h0, Turn6.refl _ _ _⟩
  case round =>
    obtain ⟨k, i, hi, hk, rfl, hJs, hT⟩ := hrel
    have hs0 : wr.cell? ⟨Bs, 0, none⟩ = some (.slice (some ⟨b, off, none⟩) n cap) := by
      rw [← hc]
      unfold World.cell?
      rw [hT.block Bs hBs hne1]
    have hz0 : wr.cell? ⟨Bz, 0, none⟩ = some (.int .i64 6) := by
      rw [← hz]
      unfold World.cell?
      rw [hT.block Bz hBz hne2]
    by_cases hlt : i < n
    · obtain ⟨z, hzz⟩ : ∃ z, z = min 6 (n - 6 * k) := ⟨_, rfl⟩
      have hz1 : 0 < z ∧ z ≤ 6 ∧ i + z ≤ n := by omega
      obtain ⟨r, hr⟩ : ∃ r, r = n - i := ⟨_, rfl⟩
      have hfrom : ∀ W : World, (Instr.slice 29 (.slice (some ⟨b, off, none⟩) n cap) (some (.int .i64 (i : Int))) none none).run Tryd.prog W = .ok (.slice (some ⟨b, off + i * 4, none⟩) r (cap - i)) W := fun W => by
        rw [hr]
        exact runFromEnt b off n cap i hlt hcap W
      have hmid : ∀ W : World, (Instr.slice 29 (.slice (some ⟨b, off, none⟩) n cap) (some (.int .i64 (i : Int))) (some (.int .i64 ((i : Int) + (z : Int)))) (some (.int .i64 ((i : Int) + (z : Int))))).run Tryd.prog W = .ok (.slice (some ⟨b, off + i * 4, none⟩) z z) W := fun W => by
        have h := runMid3Ent b off n cap i (i + z) (by omega) (by omega) W
        rwa [show ((i + z : Nat) : Int) = (i : Int) + (z : Int) by omega, show i + z - i = z by omega] at h
      have hadd : IntKind.i64.wrap ((i : Int) + (z : Int)) = (i : Int) + (z : Int) := by rw [IntKind.wrap_i64]; omega
      have hadd6 : IntKind.i64.wrap ((i : Int) + 6) = ((i + 6 : Nat) : Int) := by rw [IntKind.wrap_i64]; omega
      have hmin : (if (r : Int) < 6 then (r : Int) else (6 : Int)) = (z : Int) := by split <;> omega
      have HMIN := hide hmin
      clear hmin
      have HZ1 := hide hz1
      have HI := hide hi
      have HZZ := hide hzz
      clear hr hzz hi hz1
      gi_wp2
      gi_region
      rw [HMIN.out]
      have hJ2 : J (List.range k) wr.drew := hJ _ _ _ none hJs ⟨rfl, rfl, rfl, Nat.le_refl _, fun _ _ _ => rfl⟩ (fun r e => by cases e)
      obtain ⟨fn, tmps, assign, body, hy, hR⟩ := hY _ k wr.drew hJ2 (by rw [List.length_range]; have := HI.out; omega)
      unfold encC at hy
      rw [cI_of (show 6 * k < n by have := HI.out; omega), ← HZZ.out, ← HI.out] at hy
      rw [← List.range_succ] at hR
      have hs1 : wr.drew.cell? ⟨Bs, 0, none⟩ = some (.slice (some ⟨b, off, none⟩) n cap) := hs0
      have hz2 : wr.drew.cell? ⟨Bz, 0, none⟩ = some (.int .i64 6) := hz0
      clear hs0 hz0
      gi_wp2
      refine hR.mono ?_
      rintro e W3 (⟨rfl, hJ3, hT3⟩ | ⟨rfl, hJx3⟩)
      · have hT4 : Turn6 n₀ gx W W3 := hT.trans ((show Turn6 n₀ gx wr wr.drew from ⟨rfl, rfl, rfl, Nat.le_refl _, fun _ _ _ => rfl⟩).trans hT3)
        have hz3 : W3.cell? ⟨Bz, 0, none⟩ = some (.int .i64 6) := by
          rw [← hz]
          unfold World.cell?
          rw [hT4.block Bz hBz hne2]
        gi_wp2
        go_roundw
        case rel => exact ⟨k + 1, i + 6, by have := HI.out; omega, by have := HI.out; omega, by go_num, hJ3, hT4⟩
        case measure => simp [intOf]; omega
      · gi_wp2
        refine bodyPost_ret (results_none rfl _ _ _) rfl ?_
        exact ⟨⟨_, rfl⟩, .inr ⟨_, range_prefix (by have := HI.out; omega), hJx3⟩⟩
    · have hkn : k = (n + 5) / 6 := by omega
      have hJe : J (List.range ((n + 5) / 6)) wr := by rw [← hkn]; exact hJs
      clear hkn hi
      gi_wp2
      go_end0
      exact ⟨⟨_, rfl⟩, .inl ⟨_, rfl, hJe⟩⟩
theorem chunk_in (n : Nat) (a : Option Addr) (m c : Nat) (w : World) :
    CallsIn Fence.wide n Tryd.prog 61 #[.slice a m c, .int .i64 6] w fun e w' => e = .returned (.func (.func 83) #[] #[.pointer (some ⟨w.heap.size, 0, none⟩), .pointer (some ⟨w.heap.size + 1, 0, none⟩)]) ∧ w' = (w.alloc (.cells #[.slice a m c] 29)).alloc (.cells #[.int .i64 6] 3) := by
  refine callsIn_of_wp Tryd.func61 rfl trivial ?_ rfl
  simp only [Tryd.ntmps61, List.size_toArray, List.length_cons, List.length_nil, Nat.reduceAdd, Nat.reduceSub, Array.replicate_succ, Array.replicate_zero, List.push_toArray, List.append_toArray, List.nil_append, List.cons_append]
  gi_wp2
  go_ret
  exact ⟨rfl, rfl⟩
theorem chunk_stops (n' : Nat) (hn : 1 ≤ n') (Bs Bz gx b off cap n : Nat) (hn60 : n ≤ 60) (hcap : n ≤ cap) (w0 : World) (hBs : Bs < w0.heap.size) (hBz : Bz < w0.heap.size) (hne1 : Bs ≠ gx) (hne2 : Bz ≠ gx) (hc : w0.cell? ⟨Bs, 0, none⟩ = some (.slice (some ⟨b, off, none⟩) n cap)) (hz : w0.cell? ⟨Bz, 0, none⟩ = some (.int .i64 6)) :
    SeqStopsK Fence.wide n' Tryd.prog 83 #[.pointer (some ⟨Bs, 0, none⟩), .pointer (some ⟨Bz, 0, none⟩)] (encC b off n) (Turn6 w0.heap.size gx) (fun ys => ys = List.range ((n + 5) / 6)) (fun pre => pre <+: List.range ((n + 5) / 6)) ((n + 5) / 6) w0 :=
  fun l J Jx V hV hJ _ hY h0 => chunk1_in n' hn l Bs Bz gx w0.heap.size b off cap n hn60 hcap J Jx _ hJ hY V hBs hBz hne1 hne2 ((hV.cell (p := ⟨Bs, 0, none⟩) hBs).trans hc) ((hV.cell (p := ⟨Bz, 0, none⟩) hBz).trans hz) h0
end Go.Proofs.YtdlkgpobjacgeaaDoor
