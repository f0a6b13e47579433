/-
  PLAIN FACTS for FnExactInputOk: what a []string in memory is, how it lies on, what a valid input is; a struct of five one-cell fields opened. Own text of the verifier.
-/
import Derived.WalkKit
import Derived.ProofKit
import Derived.Deep.OwnRows
import Derived.Deep.Strs
import Derived.Deep.Fields
import Derived.Deep.Draws
namespace Go.Proofs.Ytkccpocodompgab
open Go.RowKit Go.Deep Go.ChangeShapes Go.WideShapes

/-- n strings S lie from the address a on. -/
def Strs (w : World) (a : Option Addr) (n : Nat) (S : Nat → ByteArray) : Prop :=
  ∀ i, i < n → ∃ b off, a = some ⟨b, off, none⟩ ∧ w.cell? ⟨b, off + i, none⟩ = some (.string (S i)) ∧ (S i).size ≤ maxLen

theorem cell_lt {w : World} {b o : Nat} {v : Value} (h : w.cell? ⟨b, o, none⟩ = some v) : b < w.heap.size := by
  rcases Nat.lt_or_ge b w.heap.size with h' | h'
  · exact h'
  · simp [World.cell?, Array.getElem?_eq_none h'] at h

theorem Strs.below {w w' : World} {a : Option Addr} {n : Nat} {S : Nat → ByteArray} (h : Strs w a n S) {B : Nat} (hb : Below B w w') (hB : w.heap.size ≤ B) : Strs w' a n S := by
  intro i hi
  obtain ⟨b, off, ha, hc, hs⟩ := h i hi
  refine ⟨b, off, ha, ?_, hs⟩
  rw [hb.cell (p := ⟨b, off + i, none⟩) (by have := cell_lt hc; show b < B; omega)]
  exact hc

theorem Strs.drewN {w : World} {a : Option Addr} {n : Nat} {S : Nat → ByteArray} (h : Strs w a n S) (k : Nat) : Strs (w.drewN k) a n S :=
  h.below (B := w.heap.size) ⟨rfl, rfl, rfl, Nat.le_refl _, fun _ _ => rfl⟩ (Nat.le_refl _)

theorem Strs.of_row {w : World} {g n : Nat} {S : Nat → ByteArray} (h : w.rowIs g 9 n (fun i => .string (S i))) (hs : ∀ i, i < n → (S i).size ≤ maxLen) : Strs w (some ⟨g, 0, none⟩) n S := by
  intro i hi
  refine ⟨g, 0, rfl, ?_, hs i hi⟩
  rw [Nat.zero_add]
  exact h.cell hi

theorem Strs.of_open {w : World} {a : Addr} {n m : Nat} {S : Nat → ByteArray} (hnm : n ≤ m) (h : ∀ i, i < m → w.cell? (a.add i) = some (.string (S i)) ∧ (S i).size ≤ maxLen) : Strs w (some a) n S := by
  intro i hi
  obtain ⟨hc, hs⟩ := h i (by omega)
  obtain ⟨b, off, spot⟩ := a
  have hspot : spot = none := by simpa [Addr.add] using World.cell?_spot (h 0 (by omega)).1
  subst hspot
  exact ⟨b, off, rfl, by rw [← Go.WideShapes.add_plain]; exact hc, hs⟩

/-- No string is too long. -/
def shortB (n : Nat) (S : Nat → ByteArray) : Bool := (List.range n).all fun i => decide ((S i).size ≤ 4000)
theorem shortB_true {n : Nat} {S : Nat → ByteArray} : shortB n S = true ↔ ∀ i, i < n → (S i).size ≤ 4000 := by
  simp [shortB]
theorem shortB_false {n : Nat} {S : Nat → ByteArray} {i : Nat} (hi : i < n) (h : 4000 < (S i).size) : shortB n S = false := by
  cases e : shortB n S with
  | false => rfl
  | true => have := shortB_true.1 e i hi; omega

/-- What inputsOk answers. -/
def listB (n : Nat) (S : Nat → ByteArray) : Bool := shortB n S && decide (n ≤ 200)

/-- The three allowances. -/
def numsB (t d c : Int) : Bool := decide (0 ≤ t ∧ t ≤ 5000 ∧ 1 ≤ d ∧ d ≤ 60 ∧ 0 ≤ c ∧ c ≤ 20000)

def inB (n1 : Nat) (S1 : Nat → ByteArray) (n2 : Nat) (S2 : Nat → ByteArray) (t d c : Int) : Bool := listB n1 S1 && listB n2 S2 && numsB t d c

theorem numsB_true {t d c : Int} : numsB t d c = true ↔ (0 ≤ t ∧ t ≤ 5000 ∧ 1 ≤ d ∧ d ≤ 60 ∧ 0 ≤ c ∧ c ≤ 20000) := by simp [numsB]
theorem numsB_false {t d c : Int} (h : ¬ (0 ≤ t ∧ t ≤ 5000 ∧ 1 ≤ d ∧ d ≤ 60 ∧ 0 ≤ c ∧ c ≤ 20000)) : numsB t d c = false := by simp only [numsB]; exact decide_eq_false h

theorem nums_way {t d c : Int} (h1 : 0 ≤ t) (h2 : t ≤ 5000) (h3 : 1 ≤ d) (h4 : d ≤ 60) (h5 : 0 ≤ c) : decide (c ≤ 20000) = numsB t d c := by
  by_cases h : c ≤ 20000
  · rw [numsB_true.2 ⟨h1, h2, h3, h4, h5, h⟩]; exact decide_eq_true h
  · rw [numsB_false (by omega)]; exact decide_eq_false h
theorem inB_of {n1 : Nat} {S1 : Nat → ByteArray} {n2 : Nat} {S2 : Nat → ByteArray} {t d c : Int} (h1 : listB n1 S1 = true) (h2 : listB n2 S2 = true) : inB n1 S1 n2 S2 t d c = numsB t d c := by simp [inB, h1, h2]
theorem inB_fst {n1 : Nat} {S1 : Nat → ByteArray} {n2 : Nat} {S2 : Nat → ByteArray} {t d c : Int} (h1 : listB n1 S1 = false) : inB n1 S1 n2 S2 t d c = false := by simp [inB, h1]
theorem inB_snd {n1 : Nat} {S1 : Nat → ByteArray} {n2 : Nat} {S2 : Nat → ByteArray} {t d c : Int} (h2 : listB n2 S2 = false) : inB n1 S1 n2 S2 t d c = false := by simp [inB, h2]
theorem listB_many {n : Nat} {S : Nat → ByteArray} (h : 200 < n) : listB n S = false := by
  have : decide (n ≤ 200) = false := decide_eq_false (by omega)
  rw [listB, this]; simp
theorem listB_long {n : Nat} {S : Nat → ByteArray} {i : Nat} (hi : i < n) (h : 4000 < (S i).size) : listB n S = false := by rw [listB, shortB_false hi h]; rfl
theorem listB_good {n : Nat} {S : Nat → ByteArray} (h : n ≤ 200) (hs : ∀ i, i < n → (S i).size ≤ 4000) : listB n S = true := by
  rw [listB, shortB_true.2 hs, decide_eq_true h]; rfl

theorem ret_bool {a b : Bool} (h : a = b) : Ending.returned (.bool a) = .returned (.bool b) := by rw [h]

theorem bcell {W w1 : World} (hb : Below W.heap.size W w1) : (∀ b o, b < W.heap.size → w1.cell? ⟨b, o, none⟩ = W.cell? ⟨b, o, none⟩) ∧ (∀ b o, b < W.heap.size → w1.frozen? ⟨b, o, none⟩ = W.frozen? ⟨b, o, none⟩) :=
  ⟨fun b o h => hb.cell (p := ⟨b, o, none⟩) h, fun b o h => hb.frozen (p := ⟨b, o, none⟩) h⟩

theorem array5 {α : Type} {cs : Array α} (h : cs.size = 5) : ∃ c0 c1 c2 c3 c4, cs = #[c0, c1, c2, c3, c4] := by
  obtain ⟨l⟩ := cs
  match l, h with
  | [c0, c1, c2, c3, c4], _ => exact ⟨c0, c1, c2, c3, c4, rfl⟩
theorem list5 {α : Type} {cs : List α} (h : cs.length = 5) : ∃ c0 c1 c2 c3 c4, cs = [c0, c1, c2, c3, c4] := by
  match cs, h with
  | [c0, c1, c2, c3, c4], _ => exact ⟨c0, c1, c2, c3, c4, rfl⟩

section
variable {H : Type} {enc : TypeId × Value → H} {P : Program} {w : World} {base : Nat} {spare : Nat → Bool} {held : Bool}
/-- A struct of five one-cell fields, by value. -/
theorem open_five {r : Reach} {b0 : Nat} {t : TypeId} {f0 f1 f2 f3 f4 : Field} {v : Value} {d : DataW H} {p : List MemPlace} (hs : P.underlying t = some (.struct #[f0, f1, f2, f3, f4])) (hone : oneCellFields P #[f0, f1, f2, f3, f4] = true) (hC : P.cellsOf t = 5)
    (hv : Value.okWide P w r b0 t v) (h : DataW.Trod enc P w base spare held t v d p) :
    ∃ (v0 v1 v2 v3 v4 : Value) (y0 y1 y2 y3 y4 : DataW H × List MemPlace) (n : Nat), v = .agg #[v0, v1, v2, v3, v4] ∧
      DataW.trod enc P w base spare held n f0.type [v0] = some y0 ∧ DataW.trod enc P w base spare held n f1.type [v1] = some y1 ∧ DataW.trod enc P w base spare held n f2.type [v2] = some y2 ∧
      DataW.trod enc P w base spare held n f3.type [v3] = some y3 ∧ DataW.trod enc P w base spare held n f4.type [v4] = some y4 := by
  obtain ⟨cs, rfl, hsz⟩ := okWide_struct hs hv
  obtain ⟨c0, c1, c2, c3, c4, rfl⟩ := array5 (hsz.trans hC)
  obtain ⟨fuel, hf⟩ := h
  obtain ⟨xs, n, _, _, _, hl, hx⟩ := DataW.trod_struct hs hf
  obtain ⟨y0, y1, y2, y3, y4, rfl⟩ := list5 (by simpa using hl)
  obtain ⟨o0, k0⟩ := hone_of hone 0 f0 rfl
  obtain ⟨o1, k1⟩ := hone_of hone 1 f1 rfl
  obtain ⟨o2, k2⟩ := hone_of hone 2 f2 rfl
  obtain ⟨o3, k3⟩ := hone_of hone 3 f3 rfl
  obtain ⟨o4, k4⟩ := hone_of hone 4 f4 rfl
  have h0 := hx 0 f0 rfl
  have h1 := hx 1 f1 rfl
  have h2 := hx 2 f2 rfl
  have h3 := hx 3 f3 rfl
  have h4 := hx 4 f4 rfl
  exact ⟨c0, c1, c2, c3, c4, y0, y1, y2, y3, y4, n, rfl, by simpa [Value.cells, o0, k0] using h0, by simpa [Value.cells, o1, k1] using h1, by simpa [Value.cells, o2, k2] using h2, by simpa [Value.cells, o3, k3] using h3, by simpa [Value.cells, o4, k4] using h4⟩

/-- A field that is a []string: its value and its strings. -/
theorem open_field {t e : TypeId} {fuel : Nat} {v : Value} {y : DataW H × List MemPlace} (ht : P.underlying t = some (.slice e)) (he : P.underlying e = some .string) (hc : P.cellsOf e = 1)
    (h : DataW.trod enc P w base spare held fuel t [v] = some y) : ∃ a n cap S, v = .slice a n cap ∧ n ≤ maxLen ∧ Strs w a n S := by
  rcases open_strs ht he hc h with ⟨hcs, _⟩ | ⟨a, len, cap, m, Sx, hcs, _, hl, hm, hmm, _, hx⟩
  · simp at hcs
    exact ⟨none, 0, 0, fun _ => ByteArray.empty, hcs, Nat.zero_le _, fun i hi => by omega⟩
  · simp at hcs
    exact ⟨some a, len, cap, Sx, hcs, by omega, Strs.of_open (by rw [hmm]; split <;> omega) hx⟩
end
end Go.Proofs.Ytkccpocodompgab
