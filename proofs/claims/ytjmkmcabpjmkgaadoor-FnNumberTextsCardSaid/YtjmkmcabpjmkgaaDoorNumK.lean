/- The texts of numbers. -/
import Derived.Test.YtjmkmcabpjmkgaaDoorNumJ
import Derived.Test.YtjmkmcabpjmkgaaDoorShelf
import Derived.Lib.AppendIntMem
import Derived.Lib.LaidTab
namespace Go.Proofs.YtjmkmcabpjmkgaaDoor
open Go.RowKit
/-- the text of a number -/
def txtN (a : Int) : List UInt8 := if sq a = 0 then Lib.decDigits a.toNat else (if sp a < 0 then 45 :: Lib.decDigits (sp a).natAbs else Lib.decDigits (sp a).toNat) ++ (if sq a = 1 then [] else 47 :: Lib.decDigits (sq a).toNat)
theorem txt_no {a : Int} (h : sq a = 0) : txtN a = Lib.decDigits a.toNat := by unfold txtN; rw [if_pos h]
theorem itoa_nn {n : Int} (h : 0 ≤ n) : Lib.itoa n = Lib.decDigits n.toNat := by unfold Lib.itoa; rw [if_neg (by omega)]
theorem itoa_ng {n : Int} (h : n < 0) : Lib.itoa n = 45 :: Lib.decDigits n.natAbs := by unfold Lib.itoa; rw [if_pos h]
theorem txt_itoa {a : Int} (h : ¬ sq a = 0) : txtN a = Lib.itoa (sp a) ++ (if sq a = 1 then [] else 47 :: Lib.decDigits (sq a).toNat) := by
  unfold txtN Lib.itoa; rw [if_neg h]
theorem itoa_len (n : Int) (h : -1000000 ≤ n) (h' : n ≤ 1000000) : (Lib.itoa n).length ≤ 1000002 := by
  unfold Lib.itoa
  split
  · have := dec_len n.natAbs; simp; omega
  · have := dec_len n.toNat; omega
/-- the table of powers of ten lies in its variable -/
def PowTab (w : World) : Prop := Lib.TabIs Tryd.prog w "internal/strconv.uint64pow10" .u64 Lib.pow10Tab
theorem gPow : Tryd.prog.globalNamed "internal/strconv.uint64pow10" = some 4 := by kernel_rfl
theorem powTab_below {B : Nat} {w w' : World} (h : PowTab w) (hb : Below B w w') (hB : 4 < B) : PowTab w' := var?_below hb gPow hB h
theorem formatInt_any (n : Int) (w : World) (h0 : -1000000 ≤ n) (h1 : n ≤ 1000000) (hP : PowTab w) : Calls Tryd.prog 62 #[.int .i64 n, .int .i64 10] w fun e w' => e = .returned (.string ⟨(Lib.itoa n).toArray⟩) ∧ Below w.heap.size w w' :=
  (Tryd.strconv_FormatInt_10 n (by omega) (by omega) w hP).mono fun e w' ⟨he, k, os, hw⟩ => ⟨he, by rw [hw]; exact Lib.below_grow _ w (Nat.le_refl _) k os⟩
theorem l01Text_any (a : Int) (w : World) (h0 : 0 ≤ a) (h1 : a < 55441) : Calls Tryd.prog 47 #[.int .i64 a] w fun e w' => e = .returned (.string ⟨(txtN a).toArray⟩) ∧ Below w.heap.size w w' := by
  obtain ⟨p0, p1, q0, q1⟩ := sp_bd a
  by_cases hz : sq a = 0
  · have H := Lib.hid (txt_no hz)
    have hz' : (sq a == 0) = true := by simp [hz]
    clear hz
    go_enter Tryd.func47, Tryd.ntmps47
    go_wp2_with (first | (go_at_call 49; refine (l01Short_any _ _ (by omega) (by omega)).mono ?_; rintro e w' ⟨rfl, rfl⟩) | (go_at_call 63; refine (l01Dec_any 1000000 _ _ (by omega) (by omega) (by omega)).mono ?_; rintro e w' ⟨rfl, hb⟩))
    go_ret
    exact ⟨ret_str H.out.symm, hb⟩
  · have H := Lib.hid (txt_itoa hz)
    have hz' : (sq a == 0) = false := by simp [hz]
    have hlen : (Lib.decDigits (sq a).toNat).length ≤ 1000001 := by have := dec_len (sq a).toNat; omega
    by_cases hn : sp a < 0
    · have hi := itoa_ng hn
      have en : (-(sp a)).toNat = (sp a).natAbs := by omega
      rw [hi, ← en] at H
      have hlen2 : (Lib.decDigits (-(sp a)).toNat).length ≤ 1000001 := by have := dec_len (-(sp a)).toNat; omega
      clear hi en
      by_cases h1q : 1 < sq a
      · have Ht := Lib.hid (show ¬ sq a = 1 by omega)
        clear hz
        go_enter Tryd.func47, Tryd.ntmps47
        go_wp2_with (first | (go_at_call 49; refine (l01Short_any _ _ (by omega) (by omega)).mono ?_; rintro e w' ⟨rfl, rfl⟩) | (go_at_call 63; refine (l01Dec_any 1000000 _ _ (by omega) (by omega) (by omega)).mono ?_; rintro e w' ⟨rfl, hb⟩))
        go_ret
        refine ⟨ret_ba ?_, (‹Below w.heap.size w _›).trans (hb.mono (‹Below w.heap.size w _›).size)⟩
        apply ByteArray.ext
        rw [H.out]
        simp [ByteArray.data_append, Ht.out]
      · have Ht := Lib.hid (show sq a = 1 by omega)
        clear hz
        go_enter Tryd.func47, Tryd.ntmps47
        go_wp2_with (first | (go_at_call 49; refine (l01Short_any _ _ (by omega) (by omega)).mono ?_; rintro e w' ⟨rfl, rfl⟩) | (go_at_call 63; refine (l01Dec_any 1000000 _ _ (by omega) (by omega) (by omega)).mono ?_; rintro e w' ⟨rfl, hb⟩))
        go_ret
        refine ⟨ret_ba ?_, hb⟩
        apply ByteArray.ext
        rw [H.out]
        simp [ByteArray.data_append, Ht.out]
    · have hi := itoa_nn (show 0 ≤ sp a by omega)
      rw [hi] at H
      have hlen2 : (Lib.decDigits (sp a).toNat).length ≤ 1000001 := by have := dec_len (sp a).toNat; omega
      have hn' : 0 ≤ sp a := by omega
      clear hi hn
      by_cases h1q : 1 < sq a
      · have Ht := Lib.hid (show ¬ sq a = 1 by omega)
        clear hz
        go_enter Tryd.func47, Tryd.ntmps47
        go_wp2_with (first | (go_at_call 49; refine (l01Short_any _ _ (by omega) (by omega)).mono ?_; rintro e w' ⟨rfl, rfl⟩) | (go_at_call 63; refine (l01Dec_any 1000000 _ _ (by omega) (by omega) (by omega)).mono ?_; rintro e w' ⟨rfl, hb⟩))
        go_ret
        refine ⟨ret_ba ?_, (‹Below w.heap.size w _›).trans (hb.mono (‹Below w.heap.size w _›).size)⟩
        apply ByteArray.ext
        rw [H.out]
        simp [ByteArray.data_append, Ht.out]
      · have Ht := Lib.hid (show sq a = 1 by omega)
        clear hz
        go_enter Tryd.func47, Tryd.ntmps47
        go_wp2_with (first | (go_at_call 49; refine (l01Short_any _ _ (by omega) (by omega)).mono ?_; rintro e w' ⟨rfl, rfl⟩) | (go_at_call 63; refine (l01Dec_any 1000000 _ _ (by omega) (by omega) (by omega)).mono ?_; rintro e w' ⟨rfl, hb⟩))
        go_ret
        refine ⟨ret_ba ?_, hb⟩
        apply ByteArray.ext
        rw [H.out]
        simp [ByteArray.data_append, Ht.out]
theorem text_any (a : Int) (w : World) (h0 : 0 ≤ a) (h1 : a < 55441) (hP : PowTab w) (hG : 4 < w.heap.size) : Calls Tryd.prog 46 #[.int .i64 a] w fun e w' => e = .returned (.string ⟨(txtN a).toArray⟩) ∧ Below w.heap.size w w' := by
  have HP := Lib.hid hP
  clear hP
  obtain ⟨p0, p1, q0, q1⟩ := sp_bd a
  by_cases hz : sq a = 0
  · have H := Lib.hid (txt_no hz)
    have Hi := Lib.hid (itoa_nn h0)
    have hz' : (sq a == 0) = true := by simp [hz]
    clear hz
    go_enter Tryd.func46, Tryd.ntmps46
    go_wp2_with (first | (go_at_call 48; refine (short_any _ _ (by omega) (by omega)).mono ?_; rintro e w' ⟨rfl, rfl⟩) | (go_at_call 62; refine (formatInt_any _ _ (by omega) (by omega) HP.out).mono ?_; rintro e w' ⟨rfl, hb⟩))
    go_ret
    exact ⟨ret_str (by rw [H.out, Hi.out]), hb⟩
  · have H := Lib.hid (txt_itoa hz)
    have hz' : (sq a == 0) = false := by simp [hz]
    have hlp := itoa_len (sp a) (by omega) (by omega)
    have hlq := itoa_len (sq a) (by omega) (by omega)
    have Hq := Lib.hid (itoa_nn q0)
    by_cases h1q : sq a = 1
    · have h1q' : (sq a == 1) = true := by simp [h1q]
      have Ht := Lib.hid h1q
      clear hz h1q
      go_enter Tryd.func46, Tryd.ntmps46
      go_wp2_with (first | (go_at_call 48; refine (short_any _ _ (by omega) (by omega)).mono ?_; rintro e w' ⟨rfl, rfl⟩) | (go_at_call 62; refine (formatInt_any _ _ (by omega) (by omega) HP.out).mono ?_; rintro e w' ⟨rfl, hb⟩))
      go_ret
      exact ⟨ret_str (by rw [H.out, if_pos Ht.out, List.append_nil]), hb⟩
    · have h1q' : (sq a == 1) = false := by simp [h1q]
      have Ht := Lib.hid h1q
      clear hz h1q
      go_enter Tryd.func46, Tryd.ntmps46
      go_wp2_with (go_at_call 48; refine (short_any _ _ (by omega) (by omega)).mono ?_; rintro e w' ⟨rfl, rfl⟩)
      refine (formatInt_any _ _ (by omega) (by omega) HP.out).mono ?_
      rintro e w1 ⟨rfl, hb1⟩
      have HP1 := Lib.hid (powTab_below HP.out hb1 hG)
      go_wp2_with fail
      refine (formatInt_any _ _ (by omega) (by omega) HP1.out).mono ?_
      rintro e w2 ⟨rfl, hb2⟩
      go_wp2_with fail
      go_ret
      refine ⟨ret_ba ?_, hb1.trans (hb2.mono hb1.size)⟩
      apply ByteArray.ext
      rw [H.out, if_neg Ht.out]
      simp [ByteArray.data_append, Hq.out]
end Go.Proofs.YtjmkmcabpjmkgaaDoor
