/- ParseNumber of spec: splits. -/
import Derived.Test.YtjmkmcabpjmkgaaDoorPrsV
import Derived.Laws.AppendOwn
import Derived.Maps.AppendAt
import Derived.Lib.SmallJoins
namespace Go.Proofs.YtjmkmcabpjmkgaaDoor
open Go.RowKit
theorem str_info : (Tryd.prog.info? 9).map (fun i => (i.zero, i.size, i.bytes)) = some (some (.string ByteArray.empty), 1, 16) := by kernel_rfl
theorem one_string (b : ByteArray) : ∀ u ∈ [Value.string b], u.oneCell' = true := fun u hu => by
  rw [List.mem_singleton.1 hu]; rfl
theorem ext_str (s : List UInt8) (a k : Nat) : (⟨s.toArray⟩ : ByteArray).extract a k = ⟨((s.drop a).take (k - a)).toArray⟩ := by
  apply ByteArray.ext
  rw [ByteArray.data_extract]
  simp
def strs (l : List (List UInt8)) : List Value := l.map fun x => .string ⟨x.toArray⟩
theorem strs_snoc (l : List (List UInt8)) (x : List UInt8) : strs (l ++ [x]) = strs l ++ [.string ⟨x.toArray⟩] := by simp [strs]
theorem split_any (s : List UInt8) (w : World) (hs : s.length ≤ 4294967280) : Calls Tryd.prog 55 #[.string ⟨s.toArray⟩, .int .u8 47] w fun e w' => ∃ v, e = .returned v ∧ w'.ownsRow w.heap.size 9 1 v (spl [] s).length (strs (spl [] s)) ∧ Below w.heap.size w w' := by
  obtain ⟨i0, hi, hz0, hz1, hz2⟩ := info_parts str_info
  have HI := Lib.hid (And.intro hi (And.intro hz0 (And.intro hz1 hz2)))
  clear hi hz0 hz1 hz2
  go_enter Tryd.func55, Tryd.ntmps55
  go_wp2_with fail
  go_loopw [5, 6, 7] (fun v x i wr => ∃ (k a : Nat) (out : List (List UInt8)) (ao : Option Addr) (cv : Nat), a ≤ k ∧ k ≤ s.length ∧ i = .int .i64 k ∧ x = .int .i64 a ∧ v = .slice ao out.length cv ∧ wr.ownsRow w.heap.size 9 1 (.slice ao out.length cv) out.length (strs out) ∧ Below w.heap.size w wr ∧ out ++ spl ((s.drop a).take (k - a)) (s.drop k) = spl [] s ∧ out.length ≤ k) (fun _ _ i _ => s.length - (intOf i).toNat)
  case atStart =>
    exact ⟨0, 0, [], some ⟨w.heap.size, 0, none⟩, 0, by omega, by omega, rfl, rfl, rfl, World.ownsRow_lit w #[] 0 (Nat.le_refl _) (by decide) rfl, (Below.refl _ _).alloc (Nat.le_refl _) _, rfl, by simp⟩
  case round =>
    obtain ⟨k, a, out, ao, cv, hak, hk, rfl, rfl, rfl, hown, hb, hsp, hol⟩ := hrel
    have hsize := hb.size
    have Hsp := Lib.hid hsp
    clear hsp
    by_cases hlt : k < s.length
    · have hgz : k < (⟨s.toArray⟩ : ByteArray).size := by rw [ba_len]; exact hlt
      have hcc : ((⟨s.toArray⟩ : ByteArray)[k]'hgz) = s[k] := rfl
      by_cases he : s[k] = 47
      · have h47 : (((⟨s.toArray⟩ : ByteArray)[k]'hgz).toNat : Int) = 47 := by rw [hcc, he]; rfl
        have Hown := Lib.hid hown
        have Hb := Lib.hid hb
        have He := Lib.hid he
        clear hown hb he hcc
        go_wp2_with (first | (at_builtin; refine wpList_append_own _ rfl _ _ 59 rfl w.heap.size 9 i0 (.string ByteArray.empty) 1 16 Tryd.underlying59 HI.out.1 HI.out.2.1 HI.out.2.2.1 HI.out.2.2.2 rfl (by decide) _ _ _ rfl (Hown.out.alloc _) ⟨wr.heap.size, 0, none⟩ 1 1 [.string ((⟨s.toArray⟩ : ByteArray).extract a k)] rfl rfl (cell_one_new _ _ _) (one_string _) (by unfold maxLen; omega) (by omega) (by simp; omega) ?_; intro v' w3 hown' hgrow3 hnil3))
        go_roundw
        case rel =>
          obtain ⟨g3, cap3, rfl⟩ := Go.Joins.ownsRow_form hown' (by omega)
          refine ⟨k + 1, k + 1, out ++ [(s.drop a).take (k - a)], some ⟨g3, 0, none⟩, cap3, by omega, by omega, by go_num, by go_num, ?_, ?_, ?_, ?_, by simp; omega⟩
          · simp
          · rw [List.length_append, strs_snoc, ← ext_str]; exact hown'
          · exact (Hb.out.alloc hsize _).grown hgrow3 (by simp; omega) (fun q hq => (Hown.out.lt q hq).1)
          · rw [← Hsp.out, List.drop_eq_getElem_cons hlt, He.out, spl, if_pos rfl]; simp
        case measure => simp [intOf]; omega
      · have h47 : ((((⟨s.toArray⟩ : ByteArray)[k]'hgz).toNat : Int) == 47) = false := by
          rw [beq_eq_false_iff_ne, hcc]
          intro h
          apply he
          apply UInt8.toNat_inj.1
          have e48 : (47 : UInt8).toNat = 47 := rfl
          omega
        have h47' : ¬ (((⟨s.toArray⟩ : ByteArray)[k]'hgz).toNat : Int) = 47 := by simpa using h47
        have He := Lib.hid he
        clear he hcc
        go_wp2_with fail
        go_roundw
        case rel =>
          refine ⟨k + 1, a, out, ao, cv, by omega, by omega, by go_num, rfl, rfl, hown, hb, ?_, by omega⟩
          rw [← Hsp.out, List.drop_eq_getElem_cons hlt, spl, if_neg He.out]
          congr 2
          rw [show k + 1 - a = (k - a) + 1 by omega, List.take_add_one]
          congr 1
          rw [List.getElem?_drop, show a + (k - a) = k by omega, List.getElem?_eq_getElem hlt]; rfl
        case measure => simp [intOf]; omega
    · obtain rfl : k = s.length := by omega
      have Hown := Lib.hid hown
      have Hb := Lib.hid hb
      clear hown hb
      go_wp2_with (first | (at_builtin; refine wpList_append_own _ rfl _ _ 59 rfl w.heap.size 9 i0 (.string ByteArray.empty) 1 16 Tryd.underlying59 HI.out.1 HI.out.2.1 HI.out.2.2.1 HI.out.2.2.2 rfl (by decide) _ _ _ rfl (Hown.out.alloc _) ⟨wr.heap.size, 0, none⟩ 1 1 [.string ((⟨s.toArray⟩ : ByteArray).extract a s.length)] rfl rfl (cell_one_new _ _ _) (one_string _) (by unfold maxLen; omega) (by omega) (by simp; omega) ?_; intro v' w3 hown' hgrow3 hnil3))
      go_ret
      refine ⟨_, rfl, ?_, ?_⟩
      · have e : spl [] s = out ++ [(s.drop a).take (s.length - a)] := by rw [← Hsp.out, List.drop_length, spl]
        rw [e, List.length_append, strs_snoc, ← ext_str]; exact hown'
      · exact (Hb.out.alloc hsize _).grown hgrow3 (by simp; omega) (fun q hq => (Hown.out.lt q hq).1)
end Go.Proofs.YtjmkmcabpjmkgaaDoor
