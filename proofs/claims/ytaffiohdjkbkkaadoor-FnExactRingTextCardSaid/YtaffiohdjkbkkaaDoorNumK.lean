/- The texts of numbers. -/
import Derived.Test.YtaffiohdjkbkkaaDoorNumJ
import Derived.Test.YtaffiohdjkbkkaaDoorShelf
import Derived.Lib.AppendIntMem
import Derived.Lib.LaidTab
namespace Go.Proofs.YtaffiohdjkbkkaaDoor
open Go.RowKit
/-- the text of a number -/
def txtN (a : Int) : List UInt8 := if sq a = 0 then Lib.decDigits a.toNat else (if sp a < 0 then 45 :: Lib.decDigits (sp a).natAbs else Lib.decDigits (sp a).toNat) ++ (if sq a = 1 then [] else 47 :: Lib.decDigits (sq a).toNat)
theorem txt_no {a : Int} (h : sq a = 0) : txtN a = Lib.decDigits a.toNat := by unfold txtN; rw [if_pos h]
theorem itoa_nn {n : Int} (h : 0 ≤ n) : Lib.itoa n = Lib.decDigits n.toNat := by unfold Lib.itoa; rw [if_neg (by omega)]
theorem itoa_ng {n : Int} (h : n < 0) : Lib.itoa n = 45 :: Lib.decDigits n.natAbs := by unfold Lib.itoa; rw [if_pos h]
theorem txt_itoa {a : Int} (h : ¬ sq a = 0) : txtN a = Lib.itoa (sp a) ++ (if sq a = 1 then [] else 47 :: Lib.decDigits (sq a).toNat) := by
  unfold txtN Lib.itoa; rw [if_neg h]
theorem itoa_len (n : Int) (h : -1000000 ≤ n) (h' : n ≤ 1000000) : (Lib.itoa n).length ≤ 1000002 := by
  unfold Lib.itoa
  split
  · have := dec_len n.natAbs; simp; omega
  · have := dec_len n.toNat; omega
/-- the table of powers of ten lies in its variable -/
def PowTab (w : World) : Prop := Lib.TabIs Tryd.prog w "internal/strconv.uint64pow10" .u64 Lib.pow10Tab
theorem gPow : Tryd.prog.globalNamed "internal/strconv.uint64pow10" = some 0 := by kernel_rfl
theorem powTab_below {B : Nat} {w w' : World} (h : PowTab w) (hb : Below B w w') (hB : 0 < B) : PowTab w' := var?_below hb gPow hB h
theorem formatInt_any (n : Int) (w : World) (h0 : -1000000 ≤ n) (h1 : n ≤ 1000000) (hP : PowTab w) : Calls Tryd.prog 24 #[.int .i64 n, .int .i64 10] w fun e w' => e = .returned (.string ⟨(Lib.itoa n).toArray⟩) ∧ Below w.heap.size w w' :=
  (Tryd.strconv_FormatInt_10 n (by omega) (by omega) w hP).mono fun e w' ⟨he, k, os, hw⟩ => ⟨he, by rw [hw]; exact Lib.below_grow _ w (Nat.le_refl _) k os⟩
end Go.Proofs.YtaffiohdjkbkkaaDoor
