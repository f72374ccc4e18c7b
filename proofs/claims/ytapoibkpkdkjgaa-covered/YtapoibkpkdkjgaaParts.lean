/-
  Parts of the law's walk that stand outside it: the sample 'adz'; the list that grows.
-/
import Derived.Test.YtapoibkpkdkjgaaCall
namespace Go.Proofs.Ytapoibkpkdkjgaa.covered
open Go.RowKit
open Cov

theorem amz {r : ByteArray} (h : IsCov ⟨#[97, 100, 122]⟩ (isIn [1]) r) : r = ⟨#[97, 109, 122]⟩ := by
  obtain ⟨h1, h2⟩ := h
  have e1 : (⟨#[97, 100, 122]⟩ : ByteArray).size = 3 := rfl
  have e2 : (⟨#[97, 109, 122]⟩ : ByteArray).size = 3 := rfl
  refine byteAt_ext (h1.trans (e1.trans e2.symm)) fun i hi => ?_
  rw [e2] at hi
  rw [e1] at h2
  rw [h2 i hi]
  match i, hi with
  | 0, _ => rfl
  | 1, _ => rfl
  | 2, _ => rfl

/-- Cover of 'adz' at place 1. -/
theorem cover_adz (b : Nat) (w : World) (hc : w.cell? ⟨b, 0, none⟩ = some (.int .i64 1)) :
    Calls Try.prog 5 #[.string ⟨#[97, 100, 122]⟩, .slice (some ⟨b, 0, none⟩) 1 1] w fun e w' => e = .returned (.tuple #[.string ⟨#[97, 109, 122]⟩, .int .i64 0]) ∧ Below w.heap.size w w' := by
  have e1 : (⟨#[97, 100, 122]⟩ : ByteArray).size = 3 := rfl
  refine (cover_ok ⟨#[97, 100, 122]⟩ (.slice (some ⟨b, 0, none⟩) 1 1) [1] w (by rw [e1]; omega) (by simp) (.inr ⟨b, 0, 1, 1, rfl, rfl, ?_⟩) ?_).mono ?_
  · intro i hi
    obtain rfl : i = 0 := by omega
    exact hc
  · intro z hz
    rw [e1]
    simp at hz
    omega
  · rintro e w' ⟨r, rfl, hr, hB⟩
    rw [amz hr]
    exact ⟨rfl, hB⟩

/-- The places that are told, as the law picks them. -/
def picks (zs : List Int) (n : Int) (k : Nat) : List Int := (zs.take k).map fun c => pickI c n

theorem picks_len (zs : List Int) (n : Int) (k : Nat) (h : k ≤ zs.length) : (picks zs n k).length = k := by
  unfold picks
  rw [List.length_map, List.length_take]
  omega

theorem picks_all (zs : List Int) (n : Int) (k : Nat) (hn : 0 < n) : ∀ z ∈ picks zs n k, 0 ≤ z ∧ z < n := by
  intro z hz
  unfold picks at hz
  obtain ⟨c, _, rfl⟩ := List.mem_map.1 hz
  exact pickI_lt c n hn

theorem picks_snoc (zs : List Int) (n : Int) (k : Nat) (h : k < zs.length) : picks zs n (k + 1) = picks zs n k ++ [pickI (zs.getD k 0) n] := by
  unfold picks
  rw [take_snoc zs k h, List.map_append]
  rfl

/-- From a row of the law's own to a list of numbers. -/
theorem ints_of_owns {w : World} {base : Nat} {v : Value} {k : Nat} {zs : List Int} (h : w.ownsRow base 3 1 v k (zs.map (Value.int .i64))) : Ints w v zs := by
  have hl : zs.length = k := by simpa using h.1
  rcases h.2 with ⟨rfl, h0⟩ | ⟨g, cap, cur, rfl, _, _, _, _, _, _⟩
  · refine .inl ⟨rfl, ?_⟩
    rw [h0] at hl
    exact List.eq_nil_of_length_eq_zero hl
  · refine .inr ⟨g, 0, k, cap, rfl, hl, fun i hi => ?_⟩
    have hi' : i < zs.length := by omega
    have := h.cells (g := g) rfl i (.int .i64 (zs.getD i 0)) (by
      rw [List.getElem?_map, List.getElem?_eq_getElem hi', List.getD_eq_getElem?_getD, List.getElem?_eq_getElem hi']
      rfl)
    by_cases e : i = 0
    · subst e
      simpa [Addr.add] using this
    · simpa [Addr.add, e] using this

theorem ints_below {w w' : World} {v : Value} {zs : List Int} (h : Ints w v zs) (hB : Below w.heap.size w w') : Ints w' v zs := by
  rcases h with h | ⟨b, off, len, cap, rfl, hz, hc⟩
  · exact .inl h
  · refine .inr ⟨b, off, len, cap, rfl, hz, fun i hi => ?_⟩
    rw [hB.cell (World.block_lt_of_cell? w _ (hc i hi))]
    exact hc i hi

/-- What one round does: a mark is set, a number is laid in a block of its own, the row grows. -/
theorem grow_step {w0 wr w1 : World} {g n k q : Nat} {v v' : Value} {zs : List Int} {o : Obj} (hq : q < n)
    (hown : wr.ownsRow (g + 1) 3 1 v k (zs.map (Value.int .i64))) (hM : Marks wr g n (isIn zs)) (hF : Free wr g n) (hB : Below w0.heap.size w0 wr) (hg : w0.heap.size ≤ g) (hs : g < wr.heap.size)
    (hown' : w1.ownsRow (g + 1) 3 1 v' (k + 1) (zs.map (Value.int .i64) ++ [.int .i64 (q : Int)])) (hgr : ((wr.setCell ⟨g, q, none⟩ (.bool true)).alloc o).grownBy w1 v.ownBlock) :
    w1.ownsRow (g + 1) 3 1 v' (k + 1) ((zs ++ [(q : Int)]).map (Value.int .i64)) ∧ Marks w1 g n (isIn (zs ++ [(q : Int)])) ∧ Free w1 g n ∧ Below w0.heap.size w0 w1 ∧ g < w1.heap.size := by
  have hblk : ∀ b, b < (wr.setCell ⟨g, q, none⟩ (.bool true)).heap.size → some b ≠ v.ownBlock → w1.heap[b]? = (wr.setCell ⟨g, q, none⟩ (.bool true)).heap[b]? := by
    intro b hb hne
    rw [hgr.block b (by simp at hb ⊢; omega) hne, Below.heap_alloc _ _ _ hb]
  have hlt := hown.lt
  have hne : some g ≠ v.ownBlock := fun h => by have := hlt g h.symm; omega
  have hgs : g < (wr.setCell ⟨g, q, none⟩ (.bool true)).heap.size := by simpa using hs
  have hcell : ∀ j, w1.cell? ⟨g, j, none⟩ = (wr.setCell ⟨g, q, none⟩ (.bool true)).cell? ⟨g, j, none⟩ := fun j => World.cell?_of_block (hblk g hgs hne)
  have hfroz : ∀ j, w1.frozen? ⟨g, j, none⟩ = (wr.setCell ⟨g, q, none⟩ (.bool true)).frozen? ⟨g, j, none⟩ := fun j => World.frozen?_of_block (hblk g hgs hne)
  refine ⟨by simpa using hown', fun j hj => ?_, fun j hj => ?_, ?_, ?_⟩
  · rw [hcell j]
    exact marks_set hM q hq j hj
  · rw [hfroz j]
    exact free_set hF q _ j hj
  · refine ((hB.setCell hg _).alloc (by have := hB.size; simpa using this) o).grown hgr (by have := hB.size; simp; omega) ?_
    intro b hb
    have := (hlt b hb).1
    omega
  · have := hgr.size
    simp at this
    omega

theorem one_new (w : World) (g q : Nat) (u x : Value) : ∀ j y, [x][j]? = some y → ((w.setCell ⟨g, q, none⟩ u).alloc (.cells #[x] 3)).cell? ((⟨w.heap.size, 0, none⟩ : Addr).add j) = some y := by
  intro j y hj
  have h0 : j = 0 := by
    have := (List.getElem?_eq_some_iff.1 hj).1
    simpa using this
  subst h0
  simp only [List.getElem?_cons_zero, Option.some.injEq] at hj
  subst hj
  have e : (⟨w.heap.size, 0, none⟩ : Addr).add 0 = ⟨w.heap.size, 0, none⟩ := rfl
  rw [e, World.cell?_alloc_at _ _ _ _ (by simp)]
  rfl

/-- A bad one alone between two good ones. -/
theorem half_facts {t x : ByteArray} {bad : Nat → Bool} {m : Nat} (hX : IsCov t bad x) (hm : m < t.size) (h1 : 1 ≤ m) (hb : bad m = true) (hc : (bad (m - 1) || (m + 1 == t.size) || bad (m + 1)) = false) :
    bad (m - 1) = false ∧ bad (m + 1) = false ∧ m + 1 < t.size ∧ byteAt x m = (byteAt t (m - 1) + byteAt t (m + 1)) / 2 := by
  obtain ⟨p, rfl⟩ : ∃ p, m = p + 1 := ⟨m - 1, by omega⟩
  have e : p + 1 - 1 = p := rfl
  rw [e] at hc ⊢
  have hv := hX.2 (p + 1) hm
  rw [cov_half hb hc] at hv
  simp only [Bool.or_eq_false_iff] at hc
  have h2 : p + 1 + 1 ≠ t.size := by simpa using hc.1.2
  exact ⟨hc.1.1, hc.2, by omega, hv⟩
end Go.Proofs.Ytapoibkpkdkjgaa.covered
