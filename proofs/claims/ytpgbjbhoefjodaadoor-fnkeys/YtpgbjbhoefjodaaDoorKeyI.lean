/-
  Contract of impl.insertInOrder over slots.
-/
import Derived.Test.YtpgbjbhoefjodaaDoorKeyC
import Derived.Deep.RegionHeld3
import Derived.Deep.Slices
namespace Go.Proofs.YtpgbjbhoefjodaaDoor
open Go.ChangeShapes Go.WideShapes Go.ChangeAt Go.RowKit

theorem map_add0 (a : Option Addr) : a.map (·.add 0) = a := by cases a <;> simp [Addr.add]
theorem run_headS (a : Option Addr) (n cap p : Nat) (h : p ≤ cap) (w : World) : (Instr.slice 29 (.slice a n cap) none (some (.int .i64 (p : Int))) none).run Tryd.prog w = .ok (.slice a p cap) w := by
  obtain ⟨i0, hi0, hz0, hz1, hz2⟩ := info_parts infoS
  rw [run_slice_h (P := Tryd.prog) w 29 a n cap (by kernel_rfl) .i64 (p : Int) (by omega) (by omega)]
  rw [show Tryd.prog.elem 29 = 58 by kernel_rfl]
  simp [sizeOf, typeInfo, hi0, hz1, sliced, map_add0]
theorem OwnsS.src_take {B n cap : Nat} {a : Option Addr} {w : World} {L : List Slot} (h : OwnsS B w (.slice a n cap) L) (hn : L.length = n) (p : Nat) (hp : p ≤ n) : Src w (.slice a p cap) (L.take p) := by
  have hl : (L.take p).length = p := by rw [List.length_take]; omega
  rcases h.src with ⟨e, rfl⟩ | ⟨ad, c, e, hc⟩
  · simp only [Value.slice.injEq] at e
    obtain ⟨rfl, rfl, rfl⟩ := e
    left
    obtain rfl : p = 0 := by omega
    exact ⟨rfl, rfl⟩
  · simp only [Value.slice.injEq] at e
    obtain ⟨rfl, _, rfl⟩ := e
    refine .inr ⟨ad, cap, by rw [hl], fun j u hj => hc j u ?_⟩
    rw [slotVals_take, List.getElem?_take] at hj
    split at hj
    · exact hj
    · cases hj
theorem OwnsS.src_drop {B n cap : Nat} {a : Option Addr} {w : World} {L : List Slot} (h : OwnsS B w (.slice a n cap) L) (hn : L.length = n) (p : Nat) (hp : p ≤ n) : Src w (.slice (if cap = p then a else a.map (·.add (p * 2))) (n - p) (cap - p)) (L.drop p) := by
  have hl : (L.drop p).length = n - p := by rw [List.length_drop]; omega
  rcases h.src with ⟨e, rfl⟩ | ⟨ad, c, e, hc⟩
  · simp only [Value.slice.injEq] at e
    obtain ⟨rfl, rfl, rfl⟩ := e
    left
    obtain rfl : p = 0 := by omega
    exact ⟨rfl, rfl⟩
  · simp only [Value.slice.injEq] at e
    obtain ⟨rfl, _, rfl⟩ := e
    by_cases hcp : cap = p
    · rw [if_pos hcp]
      refine .inr ⟨ad, cap - p, by rw [hl], fun j u hj => ?_⟩
      have hcn : n ≤ cap := by
        obtain ⟨_, ⟨e, _⟩ | ⟨g, c', cur, e, _, _, h1, _⟩⟩ := h
        · simp at e
        · simp only [Value.slice.injEq] at e
          omega
      have : (L.drop p) = [] := List.eq_nil_of_length_eq_zero (by omega)
      rw [this] at hj
      simp [slotVals] at hj
    · rw [if_neg hcp, Option.map_some]
      refine .inr ⟨ad.add (p * 2), cap - p, by rw [hl], fun j u hj => ?_⟩
      rw [slotVals_drop, List.getElem?_drop] at hj
      rw [Go.Deep.add_add]
      exact hc _ u hj
theorem Src.alloc {w : World} {v : Value} {cs : List Slot} (h : Src w v cs) (o : Obj) : Src (w.alloc o) v cs := h.keep ((Below.refl w.heap.size w).alloc (Nat.le_refl _) o) (Nat.le_refl _)
theorem Src.drew {w : World} {v : Value} {cs : List Slot} (h : Src w v cs) : Src w.drew v cs := h

theorem BoxP.drew {T : TypeId} {w : World} {g : Nat} {v0 v1 : Value} (h : BoxP T w g v0 v1) : BoxP T w.drew g v0 v1 := h
theorem BoxP.alloc {T : TypeId} {w : World} {g : Nat} {v0 v1 : Value} (h : BoxP T w g v0 v1) (o : Obj) : BoxP T (w.alloc o) g v0 v1 := (Below.heap_alloc w o g h.lt).trans h

set_option maxHeartbeats 2000000 in
theorem insert_any (B : Nat) (a : Option Addr) (cap : Nat) (L : List Slot) (t : Int) (k : ByteArray) (w : World) (hO : OwnsS B w (.slice a L.length cap) L) (ha : Asc L) (hl : L.length ≤ 2097151) :
    Calls Tryd.prog 41 #[.slice a L.length cap, .agg #[.int .i64 t, .string k], .func (.func 42) #[] #[]] w (SlotsPost w (insL L t k)) := by
  have HO := hide hO
  have HA := hide ha
  have hcap : L.length ≤ cap := by
    obtain ⟨a', c', e, _, h, _⟩ := hO.form
    simp only [Value.slice.injEq] at e
    omega
  obtain ⟨p, hp⟩ : ∃ p, posL L t = p := ⟨_, rfl⟩
  have hpl := posL_le L t
  rw [hp] at hpl
  have HS := hide (fun W hr => search_any a cap L t k W hr HA.out (by omega))
  rw [hp] at HS
  obtain ⟨M, hM⟩ : ∃ M, insL L t k = M := ⟨_, rfl⟩
  have HM := hide (show L.take p ++ [(t, k)] ++ L.drop p = M by rw [← hM, insL, hp]; simp)
  rw [hM]
  have T0 := hide (HO.out.src_take rfl p hpl)
  have T2 := hide (HO.out.src_drop rfl p hpl)
  have N0 := hide (show (L.take p).length = p by rw [List.length_take]; omega)
  have N2 := hide (show (L.drop p).length = L.length - p by rw [List.length_drop])
  have HR := hide (show SlotRd w w.heap.size a L from by
    obtain ⟨a', c', e, h, _⟩ := hO.form
    simp only [Value.slice.injEq] at e
    rw [e.1]
    exact h)
  obtain ⟨n, hn⟩ : ∃ n, L.length = n := ⟨_, rfl⟩
  have HN := hide hn
  rw [hn] at HO HS hl hcap hpl T2 N2 ⊢
  have s1 := run_headS a n cap p (by omega)
  have s2 := run_cutS a n cap p hpl
  obtain ⟨a2, ha2⟩ : ∃ a2, (if cap = p then a else a.map (·.add (p * 2))) = a2 := ⟨_, rfl⟩
  rw [ha2] at s2 T2
  obtain ⟨n2, hn2⟩ : ∃ n2, n - p = n2 := ⟨_, rfl⟩
  obtain ⟨c2, hc2⟩ : ∃ c2, cap - p = c2 := ⟨_, rfl⟩
  rw [hn2] at N2
  rw [hn2, hc2] at s2 T2
  have HN2 := hide hn2
  clear hO ha hn hp hM ha2 hn2 hc2
  have hpi : (p : Int) ≤ (cap : Int) := by omega
  have hpn : (p : Int) ≤ (n : Int) := by omega
  have hB := fun o => (Below.refl w.heap.size w).alloc (Nat.le_refl _) o
  go_enter Tryd.func41, Tryd.ntmps41
  go_wp2_with fail
  refine (HS.out _ ((HR.out.below (hB _) (Nat.le_refl _)).mono (by simp))).mono ?_
  rintro e w1 ⟨fd, rfl, hb1⟩
  have HX1 := hide ((BoxP.new 58 w (.int .i64 t) (.string k)).below hb1 (by simp))
  have HB1 := hide ((hB _).trans (hb1.mono (by simp)))
  clear hb1 hB
  obtain ⟨x0, x1⟩ := HX1.out.cells
  have hlx := HX1.out.lt
  go_wp2_with fail
  have hC : Calls Tryd.prog 56 #[.slice (some ⟨w1.heap.size + 1, 0, none⟩) 3 3] ((w1.alloc (.cells #[.int .i64 t, .string k] 58)).alloc (.cells #[.slice a p cap, .slice (some ⟨w1.heap.size, 0, none⟩) 1 1, .slice a2 n2 c2] 29)).drew (SlotsPost ((w1.alloc (.cells #[.int .i64 t, .string k] 58)).alloc (.cells #[.slice a p cap, .slice (some ⟨w1.heap.size, 0, none⟩) 1 1, .slice a2 n2 c2] 29)).drew M) := by
    have h := concat3_any (w1.heap.size + 1) (.slice a p cap) (.slice (some ⟨w1.heap.size, 0, none⟩) 1 1) (.slice a2 n2 c2) (L.take p) [(t, k)] (L.drop p)
      ((w1.alloc (.cells #[.int .i64 t, .string k] 58)).alloc (.cells #[.slice a p cap, .slice (some ⟨w1.heap.size, 0, none⟩) 1 1, .slice a2 n2 c2] 29)).drew
      (show _ < (World.alloc _ _).heap.size by simp)
      (show (World.alloc _ _).cell? _ = _ by simp) (show (World.alloc _ _).cell? _ = _ by simp) (show (World.alloc _ _).cell? _ = _ by simp)
      (((T0.out.keep HB1.out (Nat.le_refl _)).alloc _).alloc _).drew (((OwnsS.lit1 0 w1 t k (Nat.zero_le _)).src).alloc _).drew (((T2.out.keep HB1.out (Nat.le_refl _)).alloc _).alloc _).drew
      (by simp; omega) (by rw [N0.out, N2.out]; have := HN2.out; simp; omega)
    rw [HM.out] at h
    exact h
  have HC := hide hC
  clear hC
  go_region_held3 (fun w' => w'.cell? ⟨w.heap.size, 0, none⟩ = some (.int .i64 t) ∧ w'.cell? ⟨w.heap.size, 1, none⟩ = some (.string k))
    (first
      | with_reducible exact ⟨x0, x1⟩
      | with_reducible exact HX1.out.drew.cells
      | with_reducible exact (HX1.out.alloc _).drew.cells
      | with_reducible exact ((HX1.out.alloc _).alloc _).drew.cells
      | with_reducible exact HX2.out.cells)
    (first
      | (go_at_call 56
         refine HC.out.mono ?_
         rintro e w2 ⟨v2, rfl, ho2, hb2⟩
         have HO2 := hide ho2
         have hb2' := below_of_drew hb2
         have HB2 := hide (hb2'.mono (show w1.heap.size ≤ _ by simp; omega))
         have HB3 := hide ((((Below.refl w1.heap.size w1).alloc (Nat.le_refl _) _).alloc (by simp) _).trans HB2.out)
         have HX2 := hide (HX1.out.below HB3.out hlx)
         clear ho2 hb2 hb2'))
  all_goals go_wp2_with fail
  all_goals go_ret
  all_goals exact ⟨_, rfl, HO2.out.mono (show w.heap.size ≤ (World.drew (World.alloc _ _)).heap.size from by have := HB1.out.size; show w.heap.size ≤ (World.alloc _ _).heap.size; simp; omega), HB1.out.trans (HB3.out.mono HB1.out.size)⟩
end Go.Proofs.YtpgbjbhoefjodaaDoor
