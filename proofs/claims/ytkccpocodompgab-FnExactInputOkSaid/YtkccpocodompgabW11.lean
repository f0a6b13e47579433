/-
  laws.toStringS (11): a copy of a []string in a new row.
-/
import Derived.Test.YtkccpocodompgabRows
import Derived.Test.YtkccpocodompgabBase
import Derived.WalkSpells
import Derived.WalkLawsBesides
namespace Go.Proofs.Ytkccpocodompgab
open Go.RowKit

theorem Try.info9 : (Try.prog.info? 9).map (fun i => (i.zero, i.size, i.bytes)) = some (some (.string .empty), 1, 16) := by kernel_rfl

/-- The copy so far: k strings, the rest empty. -/
def part (S : Nat → ByteArray) (k : Nat) : Nat → Value := fun i => .string (if i < k then S i else ByteArray.empty)

theorem part_zero {w : World} {g n : Nat} (S : Nat → ByteArray) (h : w.rowIs g 9 n (fun _ => .string ByteArray.empty)) : w.rowIs g 9 n (part S 0) :=
  h.congr (fun i _ => by simp [part])
theorem part_step {w : World} {g n k : Nat} (S : Nat → ByteArray) (h : w.rowIs g 9 n (part S k)) : (w.setCell ⟨g, k, none⟩ (.string (S k))).rowIs g 9 n (part S (k + 1)) :=
  (h.set k _).congr (fun i _ => by
    by_cases e : i = k
    · subst e; simp [part]
    · by_cases l : i < k
      · simp [part, e, l, show i < k + 1 by omega]
      · simp [part, e, l, show ¬ i < k + 1 by omega])
theorem part_done {w : World} {g n : Nat} (S : Nat → ByteArray) (h : w.rowIs g 9 n (part S n)) : w.rowIs g 9 n (fun i => .string (S i)) :=
  h.congr (fun i hi => by simp [part, hi])

set_option maxHeartbeats 400000 in
theorem toStringS_any (a : Option Addr) (n cap : Nat) (S : Nat → ByteArray) (w : World) (hn : n ≤ 1048576) (hS : Strs w a n S) :
    Calls Try.prog 11 #[.slice a n cap] w fun e w' => e = .returned (.slice (some ⟨w.heap.size, 0, none⟩) n n) ∧ Strs w' (some ⟨w.heap.size, 0, none⟩) n S ∧ Below w.heap.size w w' ∧ w.heap.size < w'.heap.size := by
  have hmk := run_make_row' (P := Try.prog) 22 9 (.string .empty) 16 Try.underlying22 Try.info9 rfl .i64 .i64 n (by omega) (by omega)
  have hmax : ∀ i, i < n → (S i).size ≤ maxLen := fun i hi => by obtain ⟨_, _, _, _, h⟩ := hS i hi; exact h
  have HM : Hid (∀ i, i < n → (S i).size ≤ maxLen) := hmax
  clear hmax
  go_enter Try.func11, Try.ntmps11
  go_wp2
  go_loopw [4] (fun i wr => ∃ k : Nat, k ≤ n ∧ i = .int .i64 k ∧ wr.rowIs w.heap.size 9 n (part S k) ∧ Below w.heap.size w wr) (fun i _ => n - (intOf i).toNat)
  case atStart => exact ⟨0, Nat.zero_le _, rfl, part_zero S (World.rowIs_made w _ n 9), (Below.refl _ _).alloc (Nat.le_refl _) _⟩
  case round =>
    obtain ⟨k, hk, rfl, hrow, hbel⟩ := hrel
    by_cases hlt : k < n
    · obtain ⟨b, off, rfl, hc0, _⟩ := hS k hlt
      have hc : wr.cell? ⟨b, off + k, none⟩ = some (.string (S k)) := by
        rw [hbel.cell (p := ⟨b, off + k, none⟩) (by exact cell_lt hc0)]; exact hc0
      have hd : wr.cell? ⟨w.heap.size, k, none⟩ = some (part S k k) := hrow.cell hlt
      have hf : wr.frozen? ⟨w.heap.size, k, none⟩ = false := hrow.frozen k
      have hrow' : wr.rowIs w.heap.size 9 n (part S k) := hrow
      have R := part_step S hrow'
      have B := hbel.setCell (p := ⟨w.heap.size, k, none⟩) (Nat.le_refl _) (.string (S k))
      have HR : Hid ((wr.setCell ⟨w.heap.size, k, none⟩ (.string (S k))).rowIs w.heap.size 9 n (part S (k + 1)) ∧ Below w.heap.size w (wr.setCell ⟨w.heap.size, k, none⟩ (.string (S k)))) := ⟨R, B⟩
      clear R B hrow hrow' hbel hc0
      go_wp2
      go_roundw
      case rel => exact ⟨k + 1, by omega, by go_num, HR.out.1, HR.out.2⟩
      case measure => simp [intOf]; omega
    · have hkn : k = n := by omega
      subst hkn
      have R := part_done S hrow
      have HR : Hid (wr.rowIs w.heap.size 9 k (fun i => .string (S i))) := R
      have hlt' := hrow.lt
      clear R hrow
      go_wp2
      go_ret
      exact ⟨rfl, Strs.of_row HR.out HM.out, hbel, hlt'⟩
end Go.Proofs.Ytkccpocodompgab
