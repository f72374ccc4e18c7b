/-
  Samples laid out as bytes, covered in place, and told as a text again.
-/
import Derived.Test.YtapoibkpkdkjgaaMark
import Derived.Laws.IdiomStrings
namespace Go.Proofs.Ytapoibkpkdkjgaa.covered
open Go.RowKit
open Cov

/-- What stands at a place when the first k have been gone through. -/
def upto (f : Nat → Nat) (bad : Nat → Bool) (n k : Nat) (j : Nat) : Nat := if j < k then cov f bad n j else f j

theorem upto_lt {f : Nat → Nat} {bad : Nat → Bool} {n k : Nat} (hf : ∀ i, f i < 256) (j : Nat) : upto f bad n k j < 256 := by
  unfold upto
  split
  · exact cov_lt hf j
  · exact hf j

theorem upto_zero (f : Nat → Nat) (bad : Nat → Bool) (n j : Nat) : upto f bad n 0 j = f j := by simp [upto]
theorem upto_good {f : Nat → Nat} {bad : Nat → Bool} {n k : Nat} (h : bad k = false) (j : Nat) : upto f bad n (k + 1) j = upto f bad n k j := by
  unfold upto
  by_cases e : j = k
  · subst e; simp [cov_good h]
  · by_cases h2 : j < k
    · rw [if_pos h2, if_pos (by omega)]
    · rw [if_neg h2, if_neg (by omega)]

/-- The bytes of a text, laid. -/
def Row (s : ByteArray) (cap : Nat) : Obj := .cells (bytesRow s cap) 5 ((bytesRow s cap).size, (bytesRow s cap).size + 1)

theorem bytesRow_size (s : ByteArray) (cap : Nat) : s.size ≤ (bytesRow s cap).size := by
  unfold bytesRow
  simp

theorem row_nums (s : ByteArray) (cap : Nat) (w : World) : Nums (w.alloc (Row s cap)) w.heap.size s.size (byteAt s) := by
  intro j hj
  have hj' : j < s.data.size := hj
  unfold Row
  rw [World.cell?_alloc_mark, bytesRow_at s cap j hj', ← byteAt_get s j hj]
  rfl

theorem row_free (s : ByteArray) (cap : Nat) (w : World) : Free (w.alloc (Row s cap)) w.heap.size s.size := by
  intro j hj
  have := bytesRow_size s cap
  unfold Row
  rw [World.frozen?_alloc_mark]
  simp
  omega

theorem nums_set {w : World} {b n : Nat} {f : Nat → Nat} {bad : Nat → Bool} {k : Nat} (h : Nums w b n (upto f bad n k)) (hk : k < n) :
    Nums (w.setCell ⟨b, k, none⟩ (.int .u8 (cov f bad n k : Int))) b n (upto f bad n (k + 1)) := by
  intro j hj
  by_cases e : j = k
  · subst e
    rw [World.cell?_setCell_same w ⟨b, j, none⟩ _ (h j hj)]
    simp [upto]
  · have hne : (⟨b, k, none⟩ : Addr) ≠ ⟨b, j, none⟩ := by simp
    rw [World.cell?_setCell_other w _ _ _ hne, h j hj]
    have : upto f bad n (k + 1) j = upto f bad n k j := by
      unfold upto
      by_cases h2 : j < k
      · rw [if_pos h2, if_pos (by omega)]
      · rw [if_neg h2, if_neg (by omega)]
    rw [this]

/-- cover, of whatever place is bad. -/
theorem cover_any (b c n cb cc k : Nat) (f : Nat → Nat) (bad : Nat → Bool) (w : World) (hk : k < n) (hn : n ≤ 240) (hg : Nums w b n (upto f bad n k)) (hb : Marks w c n bad) (hf : ∀ j, f j < 256) (hbad : bad k = true) :
    Calls Try.prog 9 #[.slice (some ⟨b, 0, none⟩) n cb, .slice (some ⟨c, 0, none⟩) n cc, .int .i64 (k : Int)] w fun e w' => e = .returned (.int .u8 (cov f bad n k : Int)) ∧ ∃ q, w' = w.drewN q := by
  cases k with
  | zero =>
    refine (cover_zero b c n cb cc w).mono ?_
    rintro e w' ⟨rfl, rfl⟩
    rw [cov_zero hbad]
    exact ⟨rfl, 0, rfl⟩
  | succ m =>
    rw [show ((m + 1 : Nat) : Int) = (m : Int) + 1 from by omega]
    by_cases hc : (bad m || (m + 2 == n) || bad (m + 2)) = true
    · refine (cover_like b c n cb cc m _ bad w hk hn hg hb hc).mono ?_
      rintro e w' ⟨rfl, rfl⟩
      rw [cov_like hbad hc]
      exact ⟨by simp [upto], 0, rfl⟩
    · have hc' : (bad m || (m + 2 == n) || bad (m + 2)) = false := by simpa using hc
      refine (cover_half b c n cb cc m _ bad w hk hn hg hb (upto_lt hf) hc').mono ?_
      rintro e w' ⟨rfl, q, rfl⟩
      rw [cov_half hbad hc']
      simp only [Bool.or_eq_false_iff] at hc'
      have e1 : upto f bad n (m + 1) m = f m := by
        unfold upto
        rw [if_pos (by omega), cov_good hc'.1.1]
      have e2 : upto f bad n (m + 1) (m + 2) = f (m + 2) := by
        unfold upto
        rw [if_neg (by omega)]
      rw [e1, e2]
      exact ⟨rfl, q, rfl⟩

/-- The bytes at the end. -/
def outL (f : Nat → Nat) (n : Nat) : List UInt8 := (List.range n).map fun j => UInt8.ofNat (f j)
theorem outL_length (f : Nat → Nat) (n : Nat) : (outL f n).length = n := by simp [outL]
theorem outL_at {f : Nat → Nat} (hf : ∀ j, f j < 256) {n j : Nat} (h : j < (outL f n).length) : ((outL f n)[j]).toNat = f j := by
  have := hf j
  simp [outL]
  omega
theorem byteAt_list (l : List UInt8) (i : Nat) (h : i < l.length) : byteAt ⟨l.toArray⟩ i = (l[i]).toNat := by
  have e : (⟨l.toArray⟩ : ByteArray).data.toList = l := rfl
  unfold byteAt
  rw [e, List.getD_eq_getElem?_getD, List.getElem?_eq_getElem h]
  rfl
theorem size_list (l : List UInt8) : (⟨l.toArray⟩ : ByteArray).size = l.length := rfl
theorem outL_cov {s : ByteArray} {bad : Nat → Bool} : IsCov s bad ⟨(outL (cov (byteAt s) bad s.size) s.size).toArray⟩ := by
  refine ⟨by rw [size_list, outL_length], fun i hi => ?_⟩
  have hi' : i < (outL (cov (byteAt s) bad s.size) s.size).length := by rw [outL_length]; exact hi
  rw [byteAt_list _ i hi']
  exact outL_at (fun j => cov_lt (byteAt_lt s) j) hi'

theorem back (w : World) (b cap : Nat) (f : Nat → Nat) (n : Nat) (hf : ∀ j, f j < 256) (h : Nums w b n f) :
    (convert 33 9 (.slice (some ⟨b, 0, none⟩) n cap)).run Try.prog w = .ok (.string ⟨(outL f n).toArray⟩) w := by
  have := run_convert_bytes_back (P := Try.prog) w 33 9 5 ⟨b, 0, none⟩ cap (outL f n) Try.underlying33 Try.underlying5 Try.underlying9 (fun j hj => by
    have hj' : j < n := by rw [outL_length] at hj; exact hj
    rw [outL_at hf hj]
    have := h j hj'
    by_cases e : j = 0
    · subst e; simpa [Addr.add] using this
    · simpa [Addr.add, e] using this)
  rw [outL_length] at this
  exact this
end Go.Proofs.Ytapoibkpkdkjgaa.covered
