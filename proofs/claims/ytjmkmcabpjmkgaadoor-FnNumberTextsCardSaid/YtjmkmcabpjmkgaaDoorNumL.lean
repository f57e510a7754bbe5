/- The functions of texts of numbers. -/
import Derived.Test.YtjmkmcabpjmkgaaDoorNumK
namespace Go.Proofs.YtjmkmcabpjmkgaaDoor
open Go.RowKit
def sText (a : Int) : List UInt8 := if numB a = true then txtN a else []
def cText (a : Int) : Int := if numB a = true then 0 else 2
theorem ret_si {l m : List UInt8} {c d : Int} (h : l = m) (h' : c = d) : Ending.returned (.tuple #[.string ⟨l.toArray⟩, .int .i64 c]) = .returned (.tuple #[.string ⟨m.toArray⟩, .int .i64 d]) := by rw [h, h']
theorem specText_any (a : Int) (w : World) : Calls Tryd.prog 24 #[.int .i64 a] w fun e w' => e = .returned (.tuple #[.string ⟨(sText a).toArray⟩, .int .i64 (cText a)]) ∧ Below w.heap.size w w' := by
  cases ha : numB a
  · have H1 := Lib.hid (show ([] : List UInt8) = sText a by simp [sText, ha])
    have H2 := Lib.hid (show (2 : Int) = cText a by simp [cText, ha])
    go_enter Tryd.func24, Tryd.ntmps24
    go_wp2_with (first | (go_at_call 34; refine (l01Number_any _ _).mono ?_; rintro e w' ⟨rfl, rfl⟩) | (go_at_call 47; refine (l01Text_any _ _ (by omega) (by omega)).mono ?_; rintro e w' ⟨rfl, hb⟩))
    go_ret2
    exact ⟨ret_si H1.out H2.out, Below.refl _ _⟩
  · have ha' := numB_t ha
    have H1 := Lib.hid (show txtN a = sText a by simp [sText, ha])
    have H2 := Lib.hid (show (0 : Int) = cText a by simp [cText, ha])
    go_enter Tryd.func24, Tryd.ntmps24
    go_wp2_with (first | (go_at_call 34; refine (l01Number_any _ _).mono ?_; rintro e w' ⟨rfl, rfl⟩) | (go_at_call 47; refine (l01Text_any _ _ (by omega) (by omega)).mono ?_; rintro e w' ⟨rfl, hb⟩))
    go_ret2
    exact ⟨ret_si H1.out H2.out, hb⟩
theorem implText_any (a : Int) (w : World) (hP : PowTab w) (hG : 4 < w.heap.size) : Calls Tryd.prog 23 #[.int .i64 a] w fun e w' => e = .returned (.tuple #[.string ⟨(sText a).toArray⟩, .int .i64 (cText a)]) ∧ Below w.heap.size w w' := by
  have HP := Lib.hid hP
  clear hP
  cases ha : numB a
  · have H1 := Lib.hid (show ([] : List UInt8) = sText a by simp [sText, ha])
    have H2 := Lib.hid (show (2 : Int) = cText a by simp [cText, ha])
    go_enter Tryd.func23, Tryd.ntmps23
    go_wp2_with (first | (go_at_call 32; refine (isNumber_any _ _).mono ?_; rintro e w' ⟨rfl, rfl⟩) | (go_at_call 46; refine (text_any _ _ (by omega) (by omega) HP.out hG).mono ?_; rintro e w' ⟨rfl, hb⟩))
    go_ret2
    exact ⟨ret_si H1.out H2.out, Below.refl _ _⟩
  · have ha' := numB_t ha
    have H1 := Lib.hid (show txtN a = sText a by simp [sText, ha])
    have H2 := Lib.hid (show (0 : Int) = cText a by simp [cText, ha])
    go_enter Tryd.func23, Tryd.ntmps23
    go_wp2_with (first | (go_at_call 32; refine (isNumber_any _ _).mono ?_; rintro e w' ⟨rfl, rfl⟩) | (go_at_call 46; refine (text_any _ _ (by omega) (by omega) HP.out hG).mono ?_; rintro e w' ⟨rfl, hb⟩))
    go_ret2
    exact ⟨ret_si H1.out H2.out, hb⟩
end Go.Proofs.YtjmkmcabpjmkgaaDoor
