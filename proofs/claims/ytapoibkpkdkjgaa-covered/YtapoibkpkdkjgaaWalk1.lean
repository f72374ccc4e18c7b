/-
  The law, walked.
-/
import Derived.Test.YtapoibkpkdkjgaaParts
namespace Go.Proofs.Ytapoibkpkdkjgaa.covered
open Go.RowKit
open Cov

theorem info3 : (Try.prog.info? 3).map (fun i => (i.zero, i.size, i.bytes)) = some (some (.int .i64 0), 1, 8) := by kernel_rfl


/-- What the law is told of the list that came in. -/
def Came (w : World) (a : Option Addr) (len : Nat) (zs : List Int) : Prop :=
  len ≤ zs.length ∧ len * 8 ≤ 140737488351232 ∧ (∀ z ∈ zs, -9223372036854775808 ≤ z ∧ z ≤ 9223372036854775807) ∧
  (0 < len → ∃ b off, a = some ⟨b, off, none⟩ ∧ ∀ i, i < len → w.cell? ⟨b, off + i, none⟩ = some (.int .i64 (zs.getD i 0)))

set_option maxRecDepth 1000000 in
set_option maxHeartbeats 2000000 in
theorem walk (s : ByteArray) (a : Option Addr) (len cap : Nat) (zs : List Int) (w : World) (hs : s.size ≤ maxLen) (hcame : Came w a len zs) :
    Calls Try.prog 3 #[.string s, .slice a len cap] w fun e w' => e = .returned (.bool true) ∧ Below w.heap.size w w' := by
  have H4 : Hid (Calls Try.prog 4 #[.string s] w _) := cut_any s w hs
  obtain ⟨i0, hi, hz0, hz1, hz2⟩ := info_parts info3
  have hlen8 := hcame.2.1
  have HC : Hid (Came w a len zs) := hcame
  clear hs hcame
  go_enter Try.func3, Try.ntmps3
  go_wp2_with fail
  refine H4.out.mono ?_
  rintro e w' ⟨t, rfl, ht, rfl⟩
  by_cases h0 : t.size = 0
  · have hb1 : (t.size : Int) ≤ 0 := by omega
    clear h0 ht
    go_wp2_with fail
    refine (cover_none w'.heap.size _ ?_).mono ?_
    · simp
    rintro e w2 ⟨rfl, hB⟩
    have HB : Hid (Below w'.heap.size w' w2) := ((Below.refl _ w').alloc (Nat.le_refl _) _).trans (hB.mono (by simp))
    clear hB
    go_wp2
    go_ret
    exact ⟨rfl, HB.out⟩
  · have hb1 : (0 : Int) < (t.size : Int) := by omega
    clear h0
    go_wp2_with fail
    refine (cover_adz w'.heap.size _ ?_).mono ?_
    · simp
    rintro e w2 ⟨rfl, hB⟩
    have HB : Hid (Below w'.heap.size w' w2) := ((Below.refl _ w').alloc (Nat.le_refl _) _).trans (hB.mono (by simp))
    clear hB
    have hmk := make_bools t.size ht
    go_wp2
    go_loopw [10, 11] (fun v i wr => ∃ k : Nat, k ≤ len ∧ i = .int .i64 k ∧ wr.ownsRow (w2.heap.size + 1) 3 1 v k ((picks zs t.size k).map (Value.int .i64)) ∧ Marks wr w2.heap.size t.size (isIn (picks zs t.size k)) ∧ Free wr w2.heap.size t.size ∧ Below w'.heap.size w' wr ∧ w2.heap.size < wr.heap.size)
      (fun _ i _ => len - (intOf i).toNat)
    case atStart => exact ⟨0, Nat.zero_le _, rfl, World.ownsRow_nil _ _ _ _, made_marks t.size w2, made_free t.size w2, HB.out.alloc HB.out.size _, by simp⟩
    case round =>
      obtain ⟨k, hk, rfl, hown, hM, hF, hB, hS⟩ := hrel
      by_cases hlt : k < len
      · obtain ⟨b, off, ha, hcs⟩ := HC.out.2.2.2 (by omega)
        subst ha
        have hkz : k < zs.length := Nat.lt_of_lt_of_le hlt HC.out.1
        have hmem : zs.getD k 0 ∈ zs := by
          rw [List.getD_eq_getElem?_getD, List.getElem?_eq_getElem hkz]
          exact List.getElem_mem hkz
        have hwf := HC.out.2.2.1 _ hmem
        have hck : wr.cell? ⟨b, off + k, none⟩ = some (.int .i64 (zs.getD k 0)) := (hB.cell (World.block_lt_of_cell? w' _ (hcs k hlt))).trans (hcs k hlt)
        have hpl := pickI_lt (zs.getD k 0) t.size hb1
        obtain ⟨q, hq⟩ : ∃ q : Nat, pickI (zs.getD k 0) t.size = (q : Int) := ⟨(pickI (zs.getD k 0) t.size).toNat, by omega⟩
        have hsn := picks_snoc zs t.size k hkz
        have H6 : Hid (Calls Try.prog 6 #[.int .i64 (zs.getD k 0), .int .i64 (t.size : Int)] wr fun e w1 => e = .returned (.int .i64 (q : Int)) ∧ wr = w1) :=
          (pick_any (zs.getD k 0) t.size wr hwf.1 hwf.2 hb1 (by omega)).mono fun e w1 h => ⟨by rw [h.1, hq], h.2.symm⟩
        rw [hq] at hpl hsn
        have hqt : q < t.size := by omega
        obtain ⟨c, hc⟩ : ∃ c, zs.getD k 0 = c := ⟨_, rfl⟩
        rw [hc] at hck H6
        have hmq := hM q hqt
        have hfq := hF q hqt
        have hlenk : ((picks zs t.size k).map (Value.int .i64)).length = k := by simpa using hown.1
        have G : Hid (∀ (v' : Value) (w1 : World) (o : Obj), w1.ownsRow (w2.heap.size + 1) 3 1 v' (k + 1) ((picks zs t.size k).map (Value.int .i64) ++ [.int .i64 (q : Int)]) → ((wr.setCell ⟨w2.heap.size, q, none⟩ (.bool true)).alloc o).grownBy w1 (Value.ownBlock _) → _) :=
          fun v' w1 o => grow_step (o := o) hqt hown hM hF hB HB.out.size hS
        have hown2 := (ownsRow_setCell_below hown (a := ⟨w2.heap.size, q, none⟩) (Nat.lt_succ_self _) (.bool true)).alloc (.cells #[.int .i64 (q : Int)] 3)
        have HS : Hid (picks zs t.size (k + 1) = picks zs t.size k ++ [(q : Int)]) := hsn
        have hsz := hB.size
        clear hsn hM hF hB hc hq hmem hwf hown hcs hlenk
        go_wp2_with (first | (go_at_call 6; refine H6.out.mono ?_; rintro e w1 ⟨rfl, rfl⟩) | (at_builtin; refine wpList_append_own _ rfl _ _ 22 rfl (w2.heap.size + 1) 3 i0 (.int .i64 0) 1 8 Try.underlying22 hi hz0 hz1 hz2 rfl (by decide) _ _ _ rfl hown2 ⟨wr.heap.size, 0, none⟩ 1 1 [.int .i64 (q : Int)] rfl rfl ?c1 ?c2 ?c3 ?c4 ?c5 ?_) | go_in)
        case c1 => exact one_new _ _ _ _ _
        case c2 =>
          intro u hu
          simp at hu
          subst hu
          rfl
        case c3 => unfold maxLen; omega
        case c4 => omega
        case c5 => simp; omega
        · intro v' w1 hown' hgrow _
          have R : Hid _ := G.out v' w1 _ hown' hgrow
          clear hown' hgrow hown2 hmq hfq hck
          go_wp2
          go_roundw
          case rel =>
            refine ⟨k + 1, by omega, by go_num, ?_⟩
            rw [HS.out]
            exact R.out
          case measure => simp [intOf]; omega
      · obtain rfl : k = len := by omega
        have hI := ints_of_owns hown
        have hpl := picks_len zs t.size k HC.out.1
        have H5 : Hid (Calls Try.prog 5 #[.string t, _] wr _) := cover_ok t _ (picks zs t.size k) wr ht (by omega) hI (picks_all zs t.size k hb1)
        have HI : Hid (Ints wr _ (picks zs t.size k)) := hI
        have HM : Hid (Marks wr w2.heap.size t.size (isIn (picks zs t.size k)) ∧ Below w'.heap.size w' wr ∧ w2.heap.size < wr.heap.size) := ⟨hM, hB, hS⟩
        have HPL : Hid ((picks zs t.size k).length = k) := hpl
        clear hown hM hF hB hS hI hpl hi hz0 hz1 hz2 hmk
        go_wp2_with fail
        refine H5.out.mono ?_
        rintro e w3 ⟨x, rfl, hx, hB3⟩
        have hx1 : x.size ≤ t.size := Nat.le_of_eq hx.1
        have hx2 : t.size ≤ x.size := Nat.le_of_eq hx.1.symm
        have HX : Hid (IsCov t (isIn (picks zs t.size k)) x) := hx
        have HI3 : Hid (Ints w3 _ (picks zs t.size k)) := ints_below HI.out hB3
        have HM3 : Hid (Marks w3 w2.heap.size t.size (isIn (picks zs t.size k))) := marks_below HM.out.1 hB3 (Nat.le_refl _)
        have HB3 : Hid (Below w'.heap.size w' w3) := HM.out.2.1.trans (hB3.mono HM.out.2.1.size)
        clear hx hB3 H5 HM HI
        obtain ⟨bad, hbad⟩ : ∃ bad, isIn (picks zs t.size k) = bad := ⟨_, rfl⟩
        rw [hbad] at HX HM3
        have HBAD : Hid (isIn (picks zs t.size k) = bad) := hbad
        clear hbad
        have hne : ((x.size : Int) != (t.size : Int)) = false := by simp; omega
        go_wp2
        go_loopw [15] (fun i wx => ∃ m : Nat, m ≤ t.size ∧ i = .int .i64 m ∧ ∃ q, wx = w3.drewN q) (fun i _ => t.size - (intOf i).toNat)
        case atStart => exact ⟨0, Nat.zero_le _, rfl, 0, rfl⟩
        case round =>
          obtain ⟨m, hm, rfl, q, rfl⟩ := hrel
          by_cases hlt : m < t.size
          · have hmx : m < x.size := by omega
            have hcm := HM3.out m hlt
            have hbx := HX.out.2 m hlt
            cases hb : bad m with
            | false =>
              rw [hb] at hcm
              have he : ((x[m]'hmx).toNat : Int) = ((t[m]'hlt).toNat : Int) := by
                rw [byteAt_get, byteAt_get, hbx, cov_good hb]
              clear hb hbx
              go_wp2
              go_quiet (fail)
              go_wp2
              go_roundw
              case rel => exact ⟨m + 1, by omega, by go_num, _, rfl⟩
              case measure => simp [intOf]; omega
            | true =>
              rw [hb] at hcm
              by_cases hm0 : m = 0
              · subst hm0
                have he : ((x[0]'hmx).toNat : Int) = 0 := by
                  rw [byteAt_get, hbx, cov_zero hb]
                  rfl
                clear hb hbx
                go_wp2
                go_roundw
                case rel => exact ⟨0 + 1, by omega, by go_num, _, rfl⟩
                case measure => simp [intOf]; omega
              · by_cases hcm1 : (bad (m - 1) || (m + 1 == t.size) || bad (m + 1)) = true
                · obtain ⟨p, rfl⟩ : ∃ p, m = p + 1 := ⟨m - 1, by omega⟩
                  have hcp := HM3.out p (by omega)
                  have hpx : p < x.size := by omega
                  have hc : (bad p || (p + 2 == t.size) || bad (p + 2)) = true := hcm1
                  have he : ((x[p + 1]'hmx).toNat : Int) = ((x[p]'hpx).toNat : Int) := by
                    rw [byteAt_get, byteAt_get, hbx, cov_like hb hc, HX.out.2 p (by omega)]
                  by_cases hp1 : bad p = true
                  · rw [hp1] at hcp
                    clear hb hbx hc hcm1 hp1
                    go_wp2
                    go_quiet (fail)
                    go_wp2
                    go_roundw
                    case rel => exact ⟨p + 1 + 1, by omega, by go_num, _, rfl⟩
                    case measure => simp [intOf]; omega
                  · have hp1' : bad p = false := by simpa using hp1
                    rw [hp1'] at hcp
                    by_cases hp2 : p + 2 = t.size
                    · have hp2' : (p : Int) + 1 + 1 = (t.size : Int) := by omega
                      clear hb hbx hc hcm1 hp1 hp1' hp2
                      go_wp2
                      go_quiet (fail)
                      go_wp2
                      go_roundw
                      case rel => exact ⟨p + 1 + 1, by omega, by go_num, _, rfl⟩
                      case measure => simp [intOf]; omega
                    · have hp3 : bad (p + 2) = true := by simpa [hp1', hp2] using hc
                      have hcq : w3.cell? ⟨w2.heap.size, p + 1 + 1, none⟩ = some (.bool true) := by rw [← hp3]; exact HM3.out (p + 2) (by omega)
                      have hp2' : (p : Int) + 1 + 1 < (t.size : Int) := by omega
                      clear hb hbx hc hcm1 hp1 hp1' hp2 hp3
                      go_wp2
                      go_quiet (fail)
                      go_wp2
                      go_roundw
                      case rel => exact ⟨p + 1 + 1, by omega, by go_num, _, rfl⟩
                      case measure => simp [intOf]; omega
                · have h1m : 1 ≤ m := by omega
                  obtain ⟨hp1, hp3, hqt, hX⟩ := half_facts HX.out hlt h1m hb (by simpa using hcm1)
                  have hpt : m - 1 < t.size := by omega
                  have hcp : w3.cell? ⟨w2.heap.size, m - 1, none⟩ = some (.bool false) := by rw [← hp1]; exact HM3.out (m - 1) hpt
                  have hcq : w3.cell? ⟨w2.heap.size, m + 1, none⟩ = some (.bool false) := by rw [← hp3]; exact HM3.out (m + 1) hqt
                  have hp2' : (m : Int) + 1 < (t.size : Int) := by omega
                  have h1m' : (1 : Int) ≤ (m : Int) := by omega
                  rw [← byteAt_get x m hmx, ← byteAt_get t (m - 1) hpt, ← byteAt_get t (m + 1) hqt] at hX
                  have g1 : ((t[m - 1]'hpt).toNat : Int) + ((t[m + 1]'hqt).toNat : Int) - 1 ≤ 2 * ((x[m]'hmx).toNat : Int) := by omega
                  have g2 : 2 * ((x[m]'hmx).toNat : Int) ≤ ((t[m - 1]'hpt).toNat : Int) + ((t[m + 1]'hqt).toNat : Int) := by omega
                  have g3 : ((t[m - 1]'hpt).toNat : Int) < 256 := by have := UInt8.toNat_lt (t[m - 1]'hpt); omega
                  have g4 : ((t[m + 1]'hqt).toNat : Int) < 256 := by have := UInt8.toNat_lt (t[m + 1]'hqt); omega
                  clear hb hbx hcm1 hp1 hp3 hX
                  by_cases hlow : ((t[m + 1]'hqt).toNat : Int) < ((t[m - 1]'hpt).toNat : Int)
                  · have d1 : decide ((x[m]'hmx).toNat < (t[m + 1]'hqt).toNat) = false := by simp; omega
                    have d2 : decide ((t[m - 1]'hpt).toNat < (x[m]'hmx).toNat) = false := by simp; omega
                    have d3 : decide (((t[m - 1]'hpt).toNat : Int) - ((x[m]'hmx).toNat : Int) < ((x[m]'hmx).toNat : Int) - ((t[m + 1]'hqt).toNat : Int)) = false := by simp; omega
                    have d4 : decide (1 < ((t[m - 1]'hpt).toNat : Int) - ((x[m]'hmx).toNat : Int) - ((x[m]'hmx).toNat : Int) + ((t[m + 1]'hqt).toNat : Int)) = false := by simp; omega
                    go_wp2
                    go_quiet (fail)
                    go_wp2
                    go_roundw
                    case rel => exact ⟨m + 1, by omega, by go_num, _, rfl⟩
                    case measure => simp [intOf]; omega
                  · have d1 : decide ((x[m]'hmx).toNat < (t[m - 1]'hpt).toNat) = false := by simp; omega
                    have d2 : decide ((t[m + 1]'hqt).toNat < (x[m]'hmx).toNat) = false := by simp; omega
                    have d3 : decide (((t[m + 1]'hqt).toNat : Int) - ((x[m]'hmx).toNat : Int) < ((x[m]'hmx).toNat : Int) - ((t[m - 1]'hpt).toNat : Int)) = false := by simp; omega
                    have d4 : decide (1 < ((t[m + 1]'hqt).toNat : Int) - ((x[m]'hmx).toNat : Int) - ((x[m]'hmx).toNat : Int) + ((t[m - 1]'hpt).toNat : Int)) = false := by simp; omega
                    go_wp2
                    go_quiet (fail)
                    go_wp2
                    go_roundw
                    case rel => exact ⟨m + 1, by omega, by go_num, _, rfl⟩
                    case measure => simp [intOf]; omega
          · obtain rfl : m = t.size := by omega
            have H5 : Hid (Calls Try.prog 5 #[.string x, _] (w3.drewN q) fun e w4 => e = .returned (.tuple #[.string x, .int .i64 0]) ∧ Below w3.heap.size w3 w4) :=
              (cover_ok x _ (picks zs t.size k) (w3.drewN q) (by omega) (by rw [HPL.out]; omega) HI3.out (fun z hz => by have := picks_all zs t.size k hb1 z hz; omega)).mono (by
                rintro e w4 ⟨y, rfl, hy, hB4⟩
                rw [HBAD.out] at hy
                rw [again HX.out hy]
                exact ⟨rfl, (below_drewN (Below.refl _ _) q).trans hB4⟩)
            go_wp2_with fail
            refine H5.out.mono ?_
            rintro e w4 ⟨rfl, hB4⟩
            have HB4 : Hid (Below w'.heap.size w' w4) := HB3.out.trans (hB4.mono HB3.out.size)
            clear hB4
            go_wp2
            go_ret
            exact ⟨rfl, HB4.out⟩
end Go.Proofs.Ytapoibkpkdkjgaa.covered
