/-
  laws.FnExactInputOk (3): the law's walk, out of the contracts.
-/
import Derived.Test.YtkccpocodompgabW4
import Derived.Test.YtkccpocodompgabW6
import Derived.Test.YtkccpocodompgabW7
import Derived.Test.YtkccpocodompgabW8
import Derived.Test.YtkccpocodompgabW10
import Derived.Deep.RegionWith
namespace Go.Proofs.Ytkccpocodompgab
open Go.RowKit

/-- A new block of five cells, later. -/
theorem five_cells {w w' : World} {v0 v1 v2 v3 v4 : Value} {t : TypeId} (hb : Below (w.heap.size + 1) (w.alloc (.cells #[v0, v1, v2, v3, v4] t)) w') :
    w'.cell? ⟨w.heap.size, 0, none⟩ = some v0 ∧ w'.cell? ⟨w.heap.size, 1, none⟩ = some v1 ∧ w'.cell? ⟨w.heap.size, 2, none⟩ = some v2 ∧ w'.cell? ⟨w.heap.size, 3, none⟩ = some v3 ∧ w'.cell? ⟨w.heap.size, 4, none⟩ = some v4 := by
  refine ⟨?_, ?_, ?_, ?_, ?_⟩ <;> rw [hb.cell (by show w.heap.size < w.heap.size + 1; omega)] <;> simp

set_option maxHeartbeats 1000000 in
theorem law_any (a1 a2 : Option Addr) (n1 c1 n2 c2 : Nat) (S1 S2 : Nat → ByteArray) (t d c : Int) (w : World) (hn1 : n1 ≤ maxLen) (hn2 : n2 ≤ maxLen) (hS1 : Strs w a1 n1 S1) (hS2 : Strs w a2 n2 S2) :
    Calls Try.prog 3 #[.agg #[.slice a1 n1 c1, .slice a2 n2 c2, .int .i64 t, .int .i64 d, .int .i64 c]] w fun e w' =>
      e = .returned (.bool true) ∧ Below w.heap.size w w' := by
  have hb : ∀ o : Obj, Below w.heap.size w (w.alloc o) := fun o => (Below.refl _ _).alloc (Nat.le_refl _) o
  go_enter Try.func3, Try.ntmps3
  go_wp2_with fail
  refine (szInput_any _ _ _ _ _ _ _ _ _ _ _ _ _ hn1 hn2 (hS1.below (hb _) (Nat.le_refl _)) (hS2.below (hb _) (Nat.le_refl _)) (by omega) (by omega)).mono ?_
  rintro e w1 ⟨r, rfl, hr, hbel1⟩
  have B1 : Below w.heap.size w w1 := (hb _).trans (hbel1.mono (by simp))
  by_cases hneg : r < 0
  · clear hr hbel1
    go_wp2_with fail
    go_ret
    exact ⟨rfl, B1⟩
  · have hk1 : n1 ≤ 1048576 := by omega
    have hk2 : n2 ≤ 1048576 := by omega
    clear hr
    have K1 : Below (w.heap.size + 1) (w.alloc (.cells #[.slice a1 n1 c1, .slice a2 n2 c2, .int .i64 t, .int .i64 d, .int .i64 c] 24)) w1 := hbel1.mono (by simp)
    have z1 : w.heap.size + 1 ≤ w1.heap.size := by have := hbel1.size; simpa using this
    clear hbel1
    obtain ⟨p0, p1, p2, p3, p4⟩ := five_cells K1
    go_wp2_with fail
    refine (toInput_any _ _ _ _ _ _ _ _ _ _ _ _ hk1 hk2 (hS1.below B1 (Nat.le_refl _)) (hS2.below B1 (Nat.le_refl _))).mono ?_
    rintro e w2 ⟨g1, g2, rfl, hG1, hG2, hbel2⟩
    have B2 : Below w.heap.size w w2 := B1.trans (hbel2.mono (by omega))
    have K2 : Below (w.heap.size + 1) (w.alloc (.cells #[.slice a1 n1 c1, .slice a2 n2 c2, .int .i64 t, .int .i64 d, .int .i64 c] 24)) w2 := K1.trans (hbel2.mono z1)
    have z2 : w.heap.size + 1 ≤ w2.heap.size := by have := hbel2.size; omega
    clear p0 p1 p2 p3 p4 hbel2 K1 z1 B1
    obtain ⟨p0, p1, p2, p3, p4⟩ := five_cells K2
    go_wp2_with fail
    refine (specIn_any _ _ _ _ _ _ _ _ _ _ _ _ hn1 hn2 hG1 hG2).mono ?_
    rintro e w3 ⟨rfl, hbel3⟩
    have B3 : Below w.heap.size w w3 := B2.trans (hbel3.mono (by omega))
    have K3 : Below (w.heap.size + 1) (w.alloc (.cells #[.slice a1 n1 c1, .slice a2 n2 c2, .int .i64 t, .int .i64 d, .int .i64 c] 24)) w3 := K2.trans (hbel3.mono z2)
    have z3 : w.heap.size + 1 ≤ w3.heap.size := by have := hbel3.size; omega
    clear p0 p1 p2 p3 p4 hbel3 K2 z2 B2 hG1 hG2
    obtain ⟨p0, p1, p2, p3, p4⟩ := five_cells K3
    go_wp2_with fail
    refine (toInput_any _ _ _ _ _ _ _ _ _ _ _ _ hk1 hk2 (hS1.below B3 (Nat.le_refl _)) (hS2.below B3 (Nat.le_refl _))).mono ?_
    rintro e w4 ⟨h1, h2, rfl, hH1, hH2, hbel4⟩
    have B4 : Below w.heap.size w w4 := B3.trans (hbel4.mono (by omega))
    have K4 : Below (w.heap.size + 1) (w.alloc (.cells #[.slice a1 n1 c1, .slice a2 n2 c2, .int .i64 t, .int .i64 d, .int .i64 c] 24)) w4 := K3.trans (hbel4.mono z3)
    have z4 : w.heap.size + 1 ≤ w4.heap.size := by have := hbel4.size; omega
    clear p0 p1 p2 p3 p4 hbel4 K3 z3 B3
    go_wp2_with fail
    have hb4 : ∀ o : Obj, Below w4.heap.size w4 (w4.alloc o) := fun o => (Below.refl _ _).alloc (Nat.le_refl _) o
    refine (implOk_any _ _ _ _ _ _ _ _ _ _ _ _ hn1 hn2 (hH1.below (hb4 _) (Nat.le_refl _)) (hH2.below (hb4 _) (Nat.le_refl _))).mono ?_
    rintro e w5 ⟨rfl, hbel5⟩
    have Q5 : Below (w4.heap.size + 1) (w4.alloc (.cells #[.slice (some ⟨h1, 0, none⟩) n1 n1, .slice (some ⟨h2, 0, none⟩) n2 n2, .int .i64 t, .int .i64 d, .int .i64 c] 27)) w5 := hbel5.mono (by simp)
    have A5 : Below w4.heap.size w4 w5 := (hb4 _).trans (hbel5.mono (by simp))
    have B5 : Below w.heap.size w w5 := B4.trans (A5.mono (by omega))
    have K5 : Below (w.heap.size + 1) (w.alloc (.cells #[.slice a1 n1 c1, .slice a2 n2 c2, .int .i64 t, .int .i64 d, .int .i64 c] 24)) w5 := K4.trans (A5.mono z4)
    have U1 := hH1.below A5.drew (Nat.le_refl _)
    have U2 := hH2.below A5.drew (Nat.le_refl _)
    have V1 := hS1.below B5.drew (Nat.le_refl _)
    have V2 := hS2.below B5.drew (Nat.le_refl _)
    obtain ⟨p0, p1, p2, p3, p4⟩ := five_cells K5
    obtain ⟨q0, q1, q2, q3, q4⟩ := five_cells Q5
    have D5 := Q5.drew
    have z5 : w4.heap.size + 1 ≤ w5.drew.heap.size := by have := Q5.size; simpa using this
    clear hbel5 Q5 A5 K5 K4 B4 hH1 hH2 hb4 z4
    go_wp2_with fail
    go_region_with (first | (go_at_call 6; refine (toInput_any _ _ _ _ _ _ _ _ _ _ _ _ hk1 hk2 V1 V2).mono ?_; rintro e w6 ⟨f1, f2, rfl, hF1, hF2, hbel6⟩; obtain ⟨s0, s1, s2, s3, s4⟩ := five_cells (D5.trans (hbel6.mono z5))) | (go_at_call 8; refine (eqInput_any _ _ _ _ _ _ _ _ _ _ S1 S2 _ _ _ _ hn1 hn2 ?_ ?_ ?_ ?_).mono ?_; exact U1.below hbel6 (Nat.le_refl _); exact U2.below hbel6 (Nat.le_refl _); exact hF1; exact hF2; rintro e w7 ⟨rfl, hbel7⟩))
    all_goals
      have B6 : Below w.heap.size w w6 := B5.drew.trans (hbel6.mono B5.size)
      have B7 : Below w.heap.size w w7 := B6.trans (hbel7.mono B6.size)
      clear hbel6 hbel7 B6 B5 D5
      go_wp2_with fail
      go_ret
      exact ⟨rfl, B7⟩
end Go.Proofs.Ytkccpocodompgab
