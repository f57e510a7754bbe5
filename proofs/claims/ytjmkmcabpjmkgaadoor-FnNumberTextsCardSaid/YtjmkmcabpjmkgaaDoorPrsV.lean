/- ParseNumber of spec: values and splits. -/
import Derived.Test.YtjmkmcabpjmkgaaDoorPrsS
import Derived.Test.YtjmkmcabpjmkgaaDoorNumL
import Derived.Test.YtjmkmcabpjmkgaaDoorPrsW
import Derived.Test.YtjmkmcabpjmkgaaDoorSlc
namespace Go.Proofs.YtjmkmcabpjmkgaaDoor
open Go.RowKit
theorem ba_len (s : List UInt8) : (⟨s.toArray⟩ : ByteArray).size = s.length := by
  show s.toArray.size = _; simp
theorem ret_one {c d : Int} (h : c = d) : Ending.returned (.int .i64 c) = .returned (.int .i64 d) := by rw [h]
theorem vloop_drop (s : List UInt8) (k : Nat) (hk : k < s.length) (n : Int) : vloop n (s.drop k) = if (s[k]).toNat < 48 ∨ 57 < (s[k]).toNat then -1 else vloop (n * 10 + (((s[k]).toNat : Int) - 48)) (s.drop (k + 1)) := by
  rw [List.drop_eq_getElem_cons hk, vloop]
theorem vloop_bd (s : List UInt8) (hs : s.length ≤ 9) (k : Nat) (hk : k ≤ s.length) (n : Int) (h : 0 ≤ n ∧ n < 10 ^ k) : 0 ≤ n ∧ n < 1000000000 := by
  refine ⟨h.1, Int.lt_of_lt_of_le h.2 ?_⟩
  have : (10 : Int) ^ k ≤ 10 ^ 9 := by
    have h' : (10 : Nat) ^ k ≤ 10 ^ 9 := Nat.pow_le_pow_right (by decide) (by omega)
    exact_mod_cast h'
  exact this
theorem value_any (s : List UInt8) (w : World) (hs : s.length ≤ 4294967280) : Calls Tryd.prog 56 #[.string ⟨s.toArray⟩] w fun e w' => e = .returned (.int .i64 (spV s)) ∧ w = w' := by
  by_cases h1 : s.length = 0
  · have H := Lib.hid (show (-1 : Int) = spV s by unfold spV; rw [if_pos (Or.inl h1)])
    obtain rfl : s = [] := List.length_eq_zero_iff.1 h1
    go_enter Tryd.func56, Tryd.ntmps56
    go_wp2_with fail
    go_ret
    exact ⟨ret_one H.out, rfl⟩
  · by_cases h2 : 9 < s.length
    · have H := Lib.hid (show (-1 : Int) = spV s by unfold spV; rw [if_pos (Or.inr (Or.inl h2))])
      have h1' : ((s.length : Int) == 0) = false := by simpa using (show ¬ (s.length : Int) = 0 by omega)
      go_enter Tryd.func56, Tryd.ntmps56
      go_wp2_with fail
      go_ret
      exact ⟨ret_one H.out, rfl⟩
    · by_cases h3 : 1 < s.length
      · have h1' : ((s.length : Int) == 0) = false := by simpa using (show ¬ (s.length : Int) = 0 by omega)
        by_cases h4 : s.head? = some 48
        · have H := Lib.hid (show (-1 : Int) = spV s by unfold spV; rw [if_pos (Or.inr (Or.inr ⟨h3, h4⟩))])
          have h5 : (((⟨s.toArray⟩ : ByteArray)[0]'(by rw [ba_len]; omega)).toNat : Int) = 48 := by
            cases s with
            | nil => simp at h4
            | cons b r => have := Option.some.inj h4; subst this; rfl
          clear h4
          go_enter Tryd.func56, Tryd.ntmps56
          go_wp2_with fail
          go_ret
          exact ⟨ret_one H.out, rfl⟩
        · have H := Lib.hid (show spV s = vloop 0 s by unfold spV; rw [if_neg (fun h => h.elim h1 (fun h => h.elim h2 (fun h => h4 h.2)))])
          have h5 : (((⟨s.toArray⟩ : ByteArray)[0]'(by rw [ba_len]; omega)).toNat : Int) ≠ 48 := by
            cases s with
            | nil => simp at h1
            | cons b r =>
              intro h
              apply h4
              show some b = some 48
              congr 1
              apply UInt8.toNat_inj.1
              have h' : (b.toNat : Int) = 48 := h
              show b.toNat = 48
              omega
          have h5' : ((((⟨s.toArray⟩ : ByteArray)[0]'(by rw [ba_len]; omega)).toNat : Int) == 48) = false := beq_eq_false_iff_ne.2 h5
          clear h4
          go_enter Tryd.func56, Tryd.ntmps56
          go_wp2_with fail
          go_loopw [3, 4] (fun n i wr => ∃ (k : Nat) (m : Int), k ≤ s.length ∧ i = .int .i64 k ∧ n = .int .i64 m ∧ (0 ≤ m ∧ m < 10 ^ k) ∧ vloop m (s.drop k) = spV s ∧ wr = w) (fun _ i _ => s.length - (intOf i).toNat)
          case atStart => exact ⟨0, 0, by omega, rfl, rfl, ⟨by omega, by decide⟩, H.out.symm, rfl⟩
          case round =>
            obtain ⟨k, m, hk, rfl, rfl, hm, hv, rfl⟩ := hrel
            have hm2 := vloop_bd s (by omega) k hk m hm
            have Hm := Lib.hid hm
            clear hm
            by_cases hlt : k < s.length
            · have hgz : k < (⟨s.toArray⟩ : ByteArray).size := by rw [ba_len]; exact hlt
              rw [vloop_drop s k hlt] at hv
              have hcc : ((⟨s.toArray⟩ : ByteArray)[k]'hgz).toNat = (s[k]).toNat := rfl
              have hcu := (s[k]).toNat_lt
              generalize (s[k]).toNat = c at hv hcc hcu
              have hci : ((((⟨s.toArray⟩ : ByteArray)[k]'hgz).toNat : Nat) : Int) = (c : Int) := by rw [hcc]
              by_cases c1 : c < 48
              · rw [if_pos (Or.inl c1)] at hv
                have Hv := Lib.hid hv
                clear hv
                go_wp2_with fail
                go_ret
                exact ⟨ret_one Hv.out, rfl⟩
              · by_cases c2 : 57 < c
                · rw [if_pos (Or.inr c2)] at hv
                  have Hv := Lib.hid hv
                  clear hv
                  go_wp2_with fail
                  go_ret
                  exact ⟨ret_one Hv.out, rfl⟩
                · rw [if_neg (by omega)] at hv
                  have Hv := Lib.hid hv
                  clear hv
                  go_wp2_with fail
                  go_roundw
                  case rel =>
                    refine ⟨k + 1, m * 10 + ((c : Int) - 48), by omega, by go_num, by go_num, ⟨by omega, ?_⟩, Hv.out, trivial⟩
                    have := Hm.out.2
                    rw [Int.pow_succ]
                    omega
                  case measure => simp [intOf]; omega
            · obtain rfl : k = s.length := by omega
              have Hv := Lib.hid hv
              clear hv
              go_wp2_with fail
              go_ret
              refine ⟨ret_one ?_, rfl⟩
              rw [← Hv.out, List.drop_length]; rfl
      · have h1' : ((s.length : Int) == 0) = false := by simpa using (show ¬ (s.length : Int) = 0 by omega)
        have H := Lib.hid (show spV s = vloop 0 s by unfold spV; rw [if_neg (fun h => h.elim h1 (fun h => h.elim h2 (fun h => h3 h.1)))])
        go_enter Tryd.func56, Tryd.ntmps56
        go_wp2_with fail
        go_loopw [3, 4] (fun n i wr => ∃ (k : Nat) (m : Int), k ≤ s.length ∧ i = .int .i64 k ∧ n = .int .i64 m ∧ (0 ≤ m ∧ m < 10 ^ k) ∧ vloop m (s.drop k) = spV s ∧ wr = w) (fun _ i _ => s.length - (intOf i).toNat)
        case atStart => exact ⟨0, 0, by omega, rfl, rfl, ⟨by omega, by decide⟩, H.out.symm, rfl⟩
        case round =>
          obtain ⟨k, m, hk, rfl, rfl, hm, hv, rfl⟩ := hrel
          have hm2 := vloop_bd s (by omega) k hk m hm
          have Hm := Lib.hid hm
          clear hm
          by_cases hlt : k < s.length
          · have hgz : k < (⟨s.toArray⟩ : ByteArray).size := by rw [ba_len]; exact hlt
            rw [vloop_drop s k hlt] at hv
            have hcc : ((⟨s.toArray⟩ : ByteArray)[k]'hgz).toNat = (s[k]).toNat := rfl
            have hcu := (s[k]).toNat_lt
            generalize (s[k]).toNat = c at hv hcc hcu
            have hci : ((((⟨s.toArray⟩ : ByteArray)[k]'hgz).toNat : Nat) : Int) = (c : Int) := by rw [hcc]
            by_cases c1 : c < 48
            · rw [if_pos (Or.inl c1)] at hv
              have Hv := Lib.hid hv
              clear hv
              go_wp2_with fail
              go_ret
              exact ⟨ret_one Hv.out, rfl⟩
            · by_cases c2 : 57 < c
              · rw [if_pos (Or.inr c2)] at hv
                have Hv := Lib.hid hv
                clear hv
                go_wp2_with fail
                go_ret
                exact ⟨ret_one Hv.out, rfl⟩
              · rw [if_neg (by omega)] at hv
                have Hv := Lib.hid hv
                clear hv
                go_wp2_with fail
                go_roundw
                case rel =>
                  refine ⟨k + 1, m * 10 + ((c : Int) - 48), by omega, by go_num, by go_num, ⟨by omega, ?_⟩, Hv.out, trivial⟩
                  have := Hm.out.2
                  rw [Int.pow_succ]
                  omega
                case measure => simp [intOf]; omega
          · obtain rfl : k = s.length := by omega
            have Hv := Lib.hid hv
            clear hv
            go_wp2_with fail
            go_ret
            refine ⟨ret_one ?_, rfl⟩
            rw [← Hv.out, List.drop_length]; rfl
end Go.Proofs.YtjmkmcabpjmkgaaDoor
