/-
  laws.toInput (6): a copy of an input.
-/
import Derived.Test.YtkccpocodompgabW11
namespace Go.Proofs.Ytkccpocodompgab
open Go.RowKit

theorem Strs.set_other {w : World} {g n : Nat} {S : Nat → ByteArray} (h : Strs w (some ⟨g, 0, none⟩) n S) {a : Addr} (ha : g ≠ a.block) (v : Value) : Strs (w.setCell a v) (some ⟨g, 0, none⟩) n S := by
  intro i hi
  obtain ⟨b, off, e, hc, hs⟩ := h i hi
  refine ⟨b, off, e, ?_, hs⟩
  have e' : b = g := by simpa using (congrArg Addr.block (Option.some.inj e)).symm
  rw [World.cell?_of_block (w := w) (Below.heap_setCell _ _ _ _ (by show b ≠ a.block; rw [e']; exact ha))]
  exact hc

set_option maxHeartbeats 400000 in
theorem toInput_any (a1 a2 : Option Addr) (n1 c1 n2 c2 : Nat) (S1 S2 : Nat → ByteArray) (t d c : Int) (w : World) (hn1 : n1 ≤ 1048576) (hn2 : n2 ≤ 1048576) (hS1 : Strs w a1 n1 S1) (hS2 : Strs w a2 n2 S2) :
    Calls Try.prog 6 #[.agg #[.slice a1 n1 c1, .slice a2 n2 c2, .int .i64 t, .int .i64 d, .int .i64 c]] w fun e w' =>
      ∃ g1 g2 : Nat, e = .returned (.agg #[.slice (some ⟨g1, 0, none⟩) n1 n1, .slice (some ⟨g2, 0, none⟩) n2 n2, .int .i64 t, .int .i64 d, .int .i64 c]) ∧
        Strs w' (some ⟨g1, 0, none⟩) n1 S1 ∧ Strs w' (some ⟨g2, 0, none⟩) n2 S2 ∧ Below w.heap.size w w' := by
  have hb3 : ∀ (o o' o'' : Obj), Below w.heap.size w (((w.alloc o).alloc o').alloc o'') := fun o o' o'' => (((Below.refl _ _).alloc (Nat.le_refl _) o).alloc (by simp) o').alloc (by simp; omega) o''
  go_enter Try.func6, Try.ntmps6
  go_wp2_with fail
  refine (toStringS_any _ _ _ _ _ hn1 (hS1.below (hb3 _ _ _) (Nat.le_refl _))).mono ?_
  rintro e w1 ⟨rfl, hA, hbel1, hsz1⟩
  have hB1 := (hb3 _ _ _).trans (hbel1.mono (by simp; omega))
  obtain ⟨hc, hf⟩ := bcell hbel1
  simp at hsz1 hA
  go_wp2_with fail
  have hB2 := hB1.setCell (p := ⟨w.heap.size + 1 + 1, 0, none⟩) (by show w.heap.size ≤ w.heap.size + 1 + 1; omega) (Value.slice (some ⟨w.heap.size + 1 + 1 + 1, 0, none⟩) n1 n1)
  refine (toStringS_any _ _ _ _ _ hn2 (hS2.below hB2 (Nat.le_refl _))).mono ?_
  rintro e w2 ⟨rfl, hC, hbel2, hsz2⟩
  have hA2 := (hA.set_other (a := ⟨w.heap.size + 1 + 1, 0, none⟩) (by show w.heap.size + 1 + 1 + 1 ≠ w.heap.size + 1 + 1; omega) _).below hbel2 (Nat.le_refl _)
  have hB3 := hB2.trans (hbel2.mono hB2.size)
  obtain ⟨hc2', hf2'⟩ := bcell hbel2
  have hc2 : ∀ b o, b < w.heap.size + 1 + 1 + 1 → w2.cell? ⟨b, o, none⟩ = (w1.setCell ⟨w.heap.size + 1 + 1, 0, none⟩ (Value.slice (some ⟨w.heap.size + 1 + 1 + 1, 0, none⟩) n1 n1)).cell? ⟨b, o, none⟩ := fun b o h => hc2' b o (by simp; omega)
  have hf2 : ∀ b o, b < w.heap.size + 1 + 1 + 1 → w2.frozen? ⟨b, o, none⟩ = (w1.setCell ⟨w.heap.size + 1 + 1, 0, none⟩ (Value.slice (some ⟨w.heap.size + 1 + 1 + 1, 0, none⟩) n1 n1)).frozen? ⟨b, o, none⟩ := fun b o h => hf2' b o (by simp; omega)
  clear hc2' hf2' hB1 hB2 hA hS1 hS2
  simp at hsz2 hC
  go_wp2_with fail
  refine bodyPost_ret (v := .agg #[.slice (some ⟨w.heap.size + 1 + 1 + 1, 0, none⟩) n1 n1, .slice (some ⟨w1.heap.size, 0, none⟩) n2 n2, .int .i64 t, .int .i64 d, .int .i64 c]) (by simp [results, Try.results6, go_sem, hc2, hc]) rfl ⟨_, _, rfl, ?_, ?_, ?_⟩
  · clear hc hf hc2 hf2
    repeat (first | (with_reducible exact hA2) | refine Strs.set_other ?_ (by show w.heap.size + 1 + 1 + 1 ≠ _; dsimp only; omega) _)
  · clear hc hf hc2 hf2
    repeat (first | (with_reducible exact hC) | refine Strs.set_other ?_ (by show w1.heap.size ≠ _; dsimp only; omega) _)
  · clear hc hf hc2 hf2
    repeat (first | (with_reducible exact hB3) | refine Below.setCell ?_ (by show w.heap.size ≤ _; dsimp only; omega) _)
end Go.Proofs.Ytkccpocodompgab
