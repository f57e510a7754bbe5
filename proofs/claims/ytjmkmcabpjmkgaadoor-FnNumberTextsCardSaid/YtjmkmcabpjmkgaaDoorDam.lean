/- Damaged texts. -/
import Derived.Test.YtjmkmcabpjmkgaaDoorSrcX
import Derived.Deep.RegionWith
import Derived.WalkLawsBesides
namespace Go.Proofs.YtjmkmcabpjmkgaaDoor
open Go.RowKit
/-- what damage comes to: a text that is at most one byte longer, one draw later from an empty text, else three -/
def DamS (B m : Nat) (h : Int) (t : List UInt8) (w : World) (e : Ending) (w' : World) : Prop := ∃ t' : List UInt8, e = .returned (.string ⟨t'.toArray⟩) ∧ t'.length ≤ t.length + 1 ∧ (if t.length = 0 then SrcS w' B (m - 1) (lcg h) else SrcS w' B (m - 3) (lcg (lcg (lcg h)))) ∧ Only B w w'
def signB : List UInt8 := [48, 49, 50, 53, 57, 45, 43, 47, 124, 59, 58, 44, 32, 97, 115, 116, 83, 84, 120, 10]
theorem sign_cell (w : World) (i : Nat) (hi : i < 20) : ∃ c : UInt8, (w.alloc (.cells (signB.map fun c => Value.string ⟨#[c]⟩).toArray 9)).cell? ⟨w.heap.size, i, none⟩ = some (.string ⟨#[c]⟩) := by
  refine ⟨signB[i]'hi, ?_⟩
  have e : (signB.map fun c => Value.string ⟨#[c]⟩)[i]? = some (.string ⟨#[signB[i]'hi]⟩) := by
    rw [List.getElem?_map, List.getElem?_eq_getElem hi]; rfl
  generalize signB.map (fun c => Value.string ⟨#[c]⟩) = l at e
  simp [go_sem, e]
theorem SrcS.drew {w : World} {B m : Nat} {h : Int} (hs : SrcS w B m h) : SrcS w.drew B m h := by
  obtain ⟨ca, n, cc, xs, at', hs, hm⟩ := hs
  exact ⟨ca, n, cc, xs, at', hs.drew, hm⟩
theorem Only.drew {B : Nat} {a w : World} (h : Only B a w) : Only B a w.drew := ⟨h.os, h.tape, h.output, h.size, h.block⟩
theorem ret_list (b : ByteArray) : Ending.returned (.string b) = .returned (.string ⟨b.data.toList.toArray⟩) := by simp
set_option maxHeartbeats 4000000 in
theorem damage_s (B m : Nat) (h : Int) (t : List UInt8) (w : World) (hS : SrcS w B m h) (ht : t.length ≤ 4294967280) : Calls Tryd.prog 54 #[.pointer (some ⟨B, 0, none⟩), .string ⟨t.toArray⟩] w fun e w' => DamS B m h t w e w' := by
  have HS := Lib.hid hS
  have hlt := hS.src.lt
  clear hS
  go_enter Tryd.func54, Tryd.ntmps54
  go_wp2_with fail
  have hsc := sign_cell w
  have HB1 := Lib.hid (show Below w.heap.size w (w.alloc (.cells (signB.map fun c => Value.string ⟨#[c]⟩).toArray 9)) from (Below.refl _ _).alloc (Nat.le_refl _) _)
  have hsz : w.heap.size < (w.alloc (.cells (signB.map fun c => Value.string ⟨#[c]⟩).toArray 9)).heap.size := by simp
  show Calls _ _ _ (w.alloc (.cells (signB.map fun c => Value.string ⟨#[c]⟩).toArray 9)) _
  generalize w.alloc (.cells (signB.map fun c => Value.string ⟨#[c]⟩).toArray 9) = w1 at *
  refine (l01Next_s B m h 20 _ (HS.out.below HB1.out) (by omega) (by omega)).mono ?_
  rintro e w2 ⟨r, r0, r1, -, rfl, hs2, ho2⟩
  obtain ⟨i, rfl⟩ := Int.eq_ofNat_of_zero_le r0
  obtain ⟨c, hc1⟩ := hsc i (by omega)
  have hc2 : w2.cell? ⟨w.heap.size, i, none⟩ = some (.string ⟨#[c]⟩) := by rw [ho2.cell hsz (by show w.heap.size ≠ B; omega)]; exact hc1
  have Hs2 := Lib.hid hs2
  have Ho2 := Lib.hid ((Only.of_below (B := B) HB1.out).trans ho2)
  clear hs2 ho2 hsc hc1
  by_cases h0 : t.length = 0
  · obtain rfl : t = [] := List.length_eq_zero_iff.1 h0
    go_wp2_with fail
    go_ret
    exact ⟨[c], rfl, by simp, Hs2.out, Ho2.out⟩
  · have h0' : ((t.length : Int) == 0) = false := by simpa using (show ¬ (t.length : Int) = 0 by omega)
    go_wp2_with fail
    refine (l01Next_s B (m - 1) (lcg h) t.length _ Hs2.out (by omega) (by omega)).mono ?_
    rintro e w3 ⟨k0, k1, k2, -, rfl, hs3, ho3⟩
    obtain ⟨k, rfl⟩ := Int.eq_ofNat_of_zero_le k1
    have Hs3 := Lib.hid hs3
    have Ho3 := Lib.hid (Ho2.out.trans ho3)
    clear hs3 ho3 hc2 Hs2 Ho2 HS HB1
    go_wp2_with fail
    refine (l01Next_s B (m - 1 - 1) (lcg (lcg h)) 3 _ Hs3.out (by omega) (by omega)).mono ?_
    rintro e w4 ⟨q, q1, q2, -, rfl, hs4, ho4⟩
    have Hs4 := Lib.hid (show SrcS w4 B (m - 3) (lcg (lcg (lcg h))) by rw [show m - 3 = m - 1 - 1 - 1 by omega]; exact hs4)
    have Ho4 := Lib.hid (Ho3.out.trans ho4)
    clear hs4 ho4 Hs3 Ho3
    have hkl : k < t.length := by omega
    have g1 : IntKind.i64.wrap ((k : Int) + 1) = (k : Int) + 1 := IntWalk.i64_in _ (by omega)
    have g3 : ((k : Int) + 1).toNat = k + 1 := by omega
    have g4 : (k : Int) + 1 ≤ (t.length : Int) := by omega
    have g5 : k + 1 ≤ t.length := by omega
    have e0 : (⟨t.toArray⟩ : ByteArray).size = t.length := by show t.toArray.size = _; simp
    have e1 : ((⟨t.toArray⟩ : ByteArray).extract 0 k).size = k := by rw [ByteArray.size_extract, e0]; omega
    have e2 : ((⟨t.toArray⟩ : ByteArray).extract (k + 1) t.length).size = t.length - (k + 1) := by rw [ByteArray.size_extract, e0]; omega
    have e3 : ((⟨t.toArray⟩ : ByteArray).extract k t.length).size = t.length - k := by rw [ByteArray.size_extract, e0]; omega
    rcases (show q = 0 ∨ q = 1 ∨ q = 2 by omega) with rfl | rfl | rfl
    · go_wp2_with fail
      go_region_with (fail)
      all_goals
        go_wp2_with fail
        go_ret
        exact ⟨_, ret_list _, by simp; omega, by rw [if_neg h0]; first | exact Hs4.out | exact Hs4.out.drew, by first | exact Ho4.out | exact Ho4.out.drew⟩
    · go_wp2_with fail
      go_region_with (fail)
      all_goals
        go_wp2_with fail
        go_ret
        exact ⟨_, ret_list _, by simp; omega, by rw [if_neg h0]; first | exact Hs4.out | exact Hs4.out.drew, by first | exact Ho4.out | exact Ho4.out.drew⟩
    · go_wp2_with fail
      go_region_with (fail)
      all_goals
        go_wp2_with fail
        go_ret
        exact ⟨_, ret_list _, by simp; omega, by rw [if_neg h0]; first | exact Hs4.out | exact Hs4.out.drew, by first | exact Ho4.out | exact Ho4.out.drew⟩
end Go.Proofs.YtjmkmcabpjmkgaaDoor
