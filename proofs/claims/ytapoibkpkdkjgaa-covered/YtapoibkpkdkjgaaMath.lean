/-
  Covering, as plain mathematics: nothing of the program is named here.
-/
namespace Go.Proofs.Ytapoibkpkdkjgaa.Cov

/-- What covering leaves at a place: f the samples, bad the marks, n how many there are. -/
def cov (f : Nat → Nat) (bad : Nat → Bool) (n : Nat) : Nat → Nat
  | 0 => if bad 0 then 0 else f 0
  | i + 1 => if bad (i + 1) then (if bad i || (i + 2 == n) || bad (i + 2) then cov f bad n i else (f i + f (i + 2)) / 2) else f (i + 1)

theorem cov_good {f : Nat → Nat} {bad : Nat → Bool} {n i : Nat} (h : bad i = false) : cov f bad n i = f i := by
  cases i <;> simp [cov, h]

theorem cov_zero {f : Nat → Nat} {bad : Nat → Bool} {n : Nat} (h : bad 0 = true) : cov f bad n 0 = 0 := by simp [cov, h]

theorem cov_like {f : Nat → Nat} {bad : Nat → Bool} {n i : Nat} (h : bad (i + 1) = true) (hc : (bad i || (i + 2 == n) || bad (i + 2)) = true) : cov f bad n (i + 1) = cov f bad n i := by
  simp only [cov, h, hc, if_true]

theorem cov_half {f : Nat → Nat} {bad : Nat → Bool} {n i : Nat} (h : bad (i + 1) = true) (hc : (bad i || (i + 2 == n) || bad (i + 2)) = false) : cov f bad n (i + 1) = (f i + f (i + 2)) / 2 := by
  simp only [cov, h, hc, if_true]; simp

theorem cov_lt {f : Nat → Nat} {bad : Nat → Bool} {n : Nat} (hf : ∀ i, f i < 256) : ∀ i, cov f bad n i < 256
  | 0 => by
    unfold cov
    split
    · omega
    · exact hf 0
  | i + 1 => by
    have h1 := hf i
    have h2 := hf (i + 2)
    have h3 := cov_lt (bad := bad) (n := n) hf i
    unfold cov
    split
    · split
      · exact h3
      · omega
    · exact hf (i + 1)

theorem cov_congr {f g : Nat → Nat} {bad : Nat → Bool} {n : Nat} (h : ∀ i, i < n → f i = g i) : ∀ i, i < n → cov f bad n i = cov g bad n i
  | 0, hi => by unfold cov; rw [h 0 hi]
  | i + 1, hi => by
    have ih := cov_congr (bad := bad) h i (by omega)
    unfold cov
    rw [ih, h (i + 1) hi, h i (by omega)]
    by_cases e : i + 2 = n
    · simp [e]
    · rw [h (i + 2) (by omega)]

theorem cov_idem (f : Nat → Nat) (bad : Nat → Bool) (n : Nat) : ∀ i, cov (cov f bad n) bad n i = cov f bad n i
  | 0 => by
    by_cases h : bad 0 = true
    · rw [cov_zero h, cov_zero h]
    · rw [cov_good (by simpa using h)]
  | i + 1 => by
    by_cases h : bad (i + 1) = true
    · by_cases hc : (bad i || (i + 2 == n) || bad (i + 2)) = true
      · rw [cov_like h hc, cov_like h hc, cov_idem f bad n i]
      · have hc' : (bad i || (i + 2 == n) || bad (i + 2)) = false := by simpa using hc
        rw [cov_half h hc', cov_half h hc']
        simp only [Bool.or_eq_false_iff] at hc'
        rw [cov_good hc'.1.1, cov_good hc'.2]
    · rw [cov_good (by simpa using h)]

/-- The byte at a place; 0 beyond the end. -/
def byteAt (s : ByteArray) (i : Nat) : Nat := (s.data.toList.getD i 0).toNat

theorem byteAt_lt (s : ByteArray) (i : Nat) : byteAt s i < 256 := by
  unfold byteAt
  exact UInt8.toNat_lt _

theorem byteAt_get (s : ByteArray) (i : Nat) (h : i < s.size) : s[i].toNat = byteAt s i := by
  unfold byteAt
  have h' : i < s.data.toList.length := by simpa using h
  rw [List.getD_eq_getElem?_getD, List.getElem?_eq_getElem h']
  rfl

theorem byteAt_ext {s r : ByteArray} (hs : r.size = s.size) (h : ∀ i, i < s.size → byteAt r i = byteAt s i) : r = s := by
  have e : r.data.toList = s.data.toList := by
    apply List.ext_getElem
    · simpa using hs
    · intro i h1 h2
      have h2' : i < s.size := by simpa using h2
      have := h i h2'
      unfold byteAt at this
      rw [List.getD_eq_getElem?_getD, List.getD_eq_getElem?_getD, List.getElem?_eq_getElem h1, List.getElem?_eq_getElem h2] at this
      exact UInt8.toNat_inj.1 this
  cases r
  cases s
  simp at e
  subst e
  rfl

/-- Is the place among the numbers? -/
def isIn (zs : List Int) (j : Nat) : Bool := zs.any fun z => z == (j : Int)

theorem isIn_nil (j : Nat) : isIn [] j = false := rfl
theorem isIn_snoc (zs : List Int) (z : Int) (j : Nat) : isIn (zs ++ [z]) j = (isIn zs j || z == (j : Int)) := by simp [isIn]

/-- r is s, the places told covered. -/
def IsCov (s : ByteArray) (bad : Nat → Bool) (r : ByteArray) : Prop := r.size = s.size ∧ ∀ i, i < s.size → byteAt r i = cov (byteAt s) bad s.size i

theorem again {s x y : ByteArray} {bad : Nat → Bool} (h : IsCov s bad x) (k : IsCov x bad y) : y = x := by
  obtain ⟨h1, h2⟩ := h
  obtain ⟨k1, k2⟩ := k
  refine byteAt_ext k1 fun i hi => ?_
  rw [k2 i hi, h1]
  rw [h1] at hi
  rw [h2 i hi]
  rw [cov_congr h2 i hi]
  exact cov_idem _ _ _ i

/-- pick: which of n things a number speaks of. -/
def pickI (c n : Int) : Int := if c < 0 then (-(c + 1)) % n else c % n
theorem pickI_lt (c n : Int) (h : 0 < n) : 0 ≤ pickI c n ∧ pickI c n < n := by
  unfold pickI
  split
  · exact ⟨Int.emod_nonneg _ (by omega), Int.emod_lt_of_pos _ h⟩
  · exact ⟨Int.emod_nonneg _ (by omega), Int.emod_lt_of_pos _ h⟩

end Go.Proofs.Ytapoibkpkdkjgaa.Cov
