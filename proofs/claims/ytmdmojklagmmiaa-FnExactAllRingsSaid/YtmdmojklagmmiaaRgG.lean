/- Cubes and duals of the specification. -/
import Derived.Test.YtmdmojklagmmiaaRgC
namespace Go.Proofs.Ytmdmojklagmmiaa
open Go.RowKit
set_option linter.unusedSimpArgs false
theorem l03Cube_f (a : Option Addr) (n c : Nat) (M : Nat → Nat) (L : Nat → Nat → Nat) (f : Nat → Nat → Nat → Int) (w : World) (h : RdT w a n M L f) (hn : n ≤ 9000000000) (hM : ∀ i, i < n → M i ≤ 9000000000) (hL : ∀ i, i < n → ∀ j, j < M i → L i j ≤ 9000000000) :
    Calls Try.prog 51 #[.slice a n c] w fun e w' => e = .returned (.bool (cubB n M L f)) ∧ w = w' := by
  have H := Lib.hid h
  have HM := Lib.hid hM
  have HL := Lib.hid hL
  clear h hM hL
  by_cases h1 : n < 1
  · have hd : decide ((n : Int) < 1) = true := by simp; omega
    have HF := Lib.hid (cubB_size (M := M) (L := L) (f := f) (Or.inl h1))
    go_enter Try.func51, Try.ntmps51
    go_wp2_with fail
    go_ret
    exact ⟨ret_bool HF.out.symm, rfl⟩
  have hd : decide ((n : Int) < 1) = false := by simp; omega
  by_cases h2 : 16 < n
  · have hd2 : decide (16 < (n : Int)) = true := by simp; omega
    have HF := Lib.hid (cubB_size (M := M) (L := L) (f := f) (Or.inr h2))
    go_enter Try.func51, Try.ntmps51
    go_wp2_with fail
    go_ret
    exact ⟨ret_bool HF.out.symm, rfl⟩
  have hd2 : decide (16 < (n : Int)) = false := by simp; omega
  go_enter Try.func51, Try.ntmps51
  go_wp2_with fail
  go_loop [4] (fun i => ∃ k : Nat, k ≤ n ∧ i = .int .i64 k ∧ ∀ i, i < k → M i = n ∧ ∀ j, j < n → L i j = n ∧ inZ 1000 (f i j) n = true) (fun i => n - (intOf i).toNat)
  case atStart => exact ⟨0, by omega, rfl, fun i hi => absurd hi (by omega)⟩
  case round =>
    obtain ⟨i, hi, rfl, hall⟩ := hrel
    have HA := Lib.hid hall
    clear hall
    by_cases hlt : i < n
    · obtain ⟨b, off, A, C, rfl, hb, hc⟩ := H.out.open (by omega)
      have e1 := (hc i hlt).1
      have HR := Lib.hid (hc i hlt).2
      have hmk := HM.out i hlt
      have HLk := Lib.hid (HL.out i hlt)
      clear hc
      by_cases hm : M i = n
      · have hd3 : ((n : Int) != (n : Int)) = false := by simp
        have HMk := Lib.hid hm
        rw [hm] at e1 HR HLk
        clear hm hmk
        generalize A i = ak at *
        generalize C i = ck at *
        go_wp2_with fail
        go_loop [5] (fun x => ∃ j : Nat, j ≤ n ∧ x = .int .i64 j ∧ ∀ j', j' < j → L i j' = n ∧ inZ 1000 (f i j') n = true) (fun x => n - (intOf x).toNat)
        case atStart => exact ⟨0, by omega, rfl, fun i hi => absurd hi (by omega)⟩
        case round =>
          obtain ⟨j, hj, rfl, hall2⟩ := hrel
          have HA2 := Lib.hid hall2
          clear hall2
          by_cases hjn : j < n
          · obtain ⟨b2, off2, A2, C2, rfl, hb2, hc2⟩ := HR.out.open (by omega)
            have e2 := (hc2 j hjn).1
            have HR2 := Lib.hid (hc2 j hjn).2
            have hlk := HLk.out j hjn
            clear hc2
            by_cases hl : L i j = n
            · rw [hl] at e2 HR2
              have HLn := Lib.hid hl
              clear hl hlk
              generalize A2 j = a2 at *
              generalize C2 j = c2 at *
              go_wp2_with fail
              go_loop [6] (fun x => ∃ k : Nat, k ≤ n ∧ x = .int .i64 k ∧ ∀ k', k' < k → 0 ≤ f i j k' ∧ f i j k' ≤ 1000) (fun x => n - (intOf x).toNat)
              case atStart => exact ⟨0, by omega, rfl, fun i hi => absurd hi (by omega)⟩
              case round =>
                obtain ⟨k, hk, rfl, hall3⟩ := hrel
                have HA3 := Lib.hid hall3
                clear hall3
                by_cases hkn : k < n
                · obtain ⟨b3, off3, rfl, hb3, hc3⟩ := HR2.out.open (by omega)
                  have e3 := hc3 k hkn
                  clear hc3
                  have HIn := Lib.hid (l01In_any (f i j k) 0 1000 w)
                  by_cases hx : 0 ≤ f i j k ∧ f i j k ≤ 1000
                  · have HN := Lib.hid (show ∀ k', k' < k + 1 → 0 ≤ f i j k' ∧ f i j k' ≤ 1000 from fun k' hk' => by
                      by_cases e : k' = k
                      · rw [e]; exact hx
                      · exact HA3.out k' (by omega))
                    rw [inB_mk hx.1 hx.2] at HIn
                    clear hx
                    generalize f i j k = x at *
                    go_wp2_with fail
                    refine HIn.out.mono ?_
                    rintro e w' ⟨rfl, rfl⟩
                    go_wp2_with fail
                    exact ⟨⟨k + 1, by omega, by go_num, HN.out⟩, by simp [intOf]; omega⟩
                  · have HF := Lib.hid (cubB_list (M := M) (L := L) (f := f) hlt hjn (Or.inr (inZ_no hkn hx)))
                    rw [inB_no (by omega)] at HIn
                    clear hx
                    generalize f i j k = x at *
                    go_wp2_with fail
                    refine HIn.out.mono ?_
                    rintro e w' ⟨rfl, rfl⟩
                    go_wp2_with fail
                    go_ret
                    exact ⟨ret_bool HF.out.symm, rfl⟩
                · obtain rfl : k = n := by omega
                  have HN := Lib.hid (show ∀ j', j' < j + 1 → L i j' = k ∧ inZ 1000 (f i j') k = true from fun j' hj' => by
                    by_cases e : j' = j
                    · rw [e]; exact ⟨HLn.out, inZ_mk HA3.out⟩
                    · exact HA2.out j' (by omega))
                  go_wp2_with fail
                  exact ⟨⟨j + 1, by omega, by go_num, HN.out⟩, by simp [intOf]; omega⟩
            · have hd4 : ((L i j : Int) != (n : Int)) = true := by simp; omega
              have HF := Lib.hid (cubB_list (M := M) (L := L) (f := f) hlt hjn (Or.inl hl))
              clear hl
              generalize A2 j = a2 at *
              generalize C2 j = c2 at *
              generalize L i j = l2 at *
              go_wp2_with fail
              go_ret
              exact ⟨ret_bool HF.out.symm, rfl⟩
          · obtain rfl : j = n := by omega
            have HN := Lib.hid (show ∀ i', i' < i + 1 → M i' = j ∧ ∀ j', j' < j → L i' j' = j ∧ inZ 1000 (f i' j') j = true from fun i' hi' => by
              by_cases e : i' = i
              · rw [e]; exact ⟨HMk.out, HA2.out⟩
              · exact HA.out i' (by omega))
            go_wp2_with fail
            exact ⟨⟨i + 1, by omega, by go_num, HN.out⟩, by simp [intOf]; omega⟩
      · have hd3 : ((M i : Int) != (n : Int)) = true := by simp; omega
        have HF := Lib.hid (cubB_row (M := M) (L := L) (f := f) hlt hm)
        clear hm
        generalize A i = ak at *
        generalize C i = ck at *
        generalize M i = mk at *
        go_wp2_with fail
        go_ret
        exact ⟨ret_bool HF.out.symm, rfl⟩
    · obtain rfl : i = n := by omega
      have HF := Lib.hid (cubB_mk (M := M) (L := L) (f := f) (show 1 ≤ i by omega) (show i ≤ 16 by omega) (fun i' hi' => ⟨(HA.out i' hi').1, fun j hj => ⟨((HA.out i' hi').2 j hj).1, inZ_t ((HA.out i' hi').2 j hj).2⟩⟩))
      go_wp2_with fail
      go_ret
      exact ⟨ret_bool HF.out.symm, rfl⟩
theorem l03Dual_f (b off n c : Nat) (B O C : Nat → Nat) (B2 O2 C2 : Nat → Nat → Nat) (f : Nat → Nat → Nat → Int) (i : Nat) (w : World) (h : CubeAt w b off n B O C B2 O2 C2 f) (hn : n ≤ 1000) (hi : i < n) :
    Calls Try.prog 86 #[.slice (some ⟨b, off, none⟩) n c, .int .i64 i] w fun e w' => e = .returned (.int .i64 (dualOf n f i)) ∧ w = w' := by
  have H := Lib.hid h
  clear h
  go_enter Try.func86, Try.ntmps86
  go_wp2_with fail
  go_loop [5, 6] (fun d x => ∃ j : Nat, j ≤ n ∧ x = .int .i64 j ∧ ((d = .int .i64 (-1) ∧ ∀ j', j' < j → f i j' 0 = 0) ∨ ∃ q : Nat, q < j ∧ d = .int .i64 q ∧ f i q 0 = 1 ∧ ∀ j', j' < j → j' ≠ q → f i j' 0 = 0)) (fun _ x => n - (intOf x).toNat)
  case atStart => exact ⟨0, by omega, rfl, Or.inl ⟨rfl, fun j hj => absurd hj (by omega)⟩⟩
  case round =>
    obtain ⟨j, hj, rfl, hd⟩ := hrel
    by_cases hjn : j < n
    · have e1 := (H.out.row i hi).1
      have e2 := (H.out.col i j hi hjn).1
      have e3 : w.cell? ⟨B2 i j, O2 i j, none⟩ = some (.int .i64 (f i j 0)) := by simpa using H.out.num i j 0 hi hjn (by omega)
      obtain ⟨x, hx⟩ : ∃ x, x = f i j 0 := ⟨_, rfl⟩
      rw [← hx] at e3
      have HX := Lib.hid hx
      clear hx
      generalize B i = b1 at *
      generalize O i = o1 at *
      generalize C i = c1 at *
      generalize B2 i j = b2 at *
      generalize O2 i j = o2 at *
      generalize C2 i j = c2 at *
      rcases hd with ⟨rfl, hz⟩ | ⟨q, hq, rfl, hq1, hz⟩
      · have HZ := Lib.hid hz
        clear hz
        by_cases x0 : x = 0
        · subst x0
          have HN := Lib.hid (show ∀ j', j' < j + 1 → f i j' 0 = 0 from fun j' hj' => by
            by_cases e : j' = j
            · rw [e, HX.out]
            · exact HZ.out j' (by omega))
          go_wp2_with fail
          exact ⟨⟨j + 1, by omega, by go_num, Or.inl ⟨rfl, HN.out⟩⟩, by simp [intOf]; omega⟩
        · by_cases x1 : x = 1
          · subst x1
            have HN := Lib.hid (show ∀ j', j' < j + 1 → j' ≠ j → f i j' 0 = 0 from fun j' hj' hne => HZ.out j' (by omega))
            clear x0
            go_wp2_with fail
            exact ⟨⟨j + 1, by omega, by go_num, Or.inr ⟨j, by omega, rfl, HX.out.symm, HN.out⟩⟩, by simp [intOf]; omega⟩
          · have hd1 : (x == 1) = false := by simp; omega
            have hd2 : (x != 0) = true := by simp; omega
            have HR := Lib.hid (dual_bad (f := f) (i := i) hjn (by rw [← HX.out]; exact x0) (Or.inl (by rw [← HX.out]; exact x1)))
            go_wp2_with fail
            go_ret
            exact ⟨ret_int HR.out.symm, rfl⟩
      · have HZ := Lib.hid hz
        have HQ := Lib.hid hq1
        clear hz hq1
        by_cases x0 : x = 0
        · subst x0
          have HN := Lib.hid (show ∀ j', j' < j + 1 → j' ≠ q → f i j' 0 = 0 from fun j' hj' hne => by
            by_cases e : j' = j
            · rw [e, HX.out]
            · exact HZ.out j' (by omega) hne)
          go_wp2_with fail
          exact ⟨⟨j + 1, by omega, by go_num, Or.inr ⟨q, by omega, rfl, HQ.out, HN.out⟩⟩, by simp [intOf]; omega⟩
        · have HR := Lib.hid (dual_bad (f := f) (i := i) hjn (by rw [← HX.out]; exact x0) (Or.inr ⟨q, by omega, by omega, by rw [HQ.out]; decide⟩))
          have hq2 : decide ((q : Int) < 0) = false := by simp
          by_cases x1 : x = 1
          · subst x1
            clear x0
            go_wp2_with fail
            go_ret
            exact ⟨ret_int HR.out.symm, rfl⟩
          · have hd1 : (x == 1) = false := by simp; omega
            have hd2 : (x != 0) = true := by simp; omega
            go_wp2_with fail
            go_ret
            exact ⟨ret_int HR.out.symm, rfl⟩
    · obtain rfl : j = n := by omega
      rcases hd with ⟨rfl, hz⟩ | ⟨q, hq, rfl, hq1, hz⟩
      · have HR := Lib.hid (dual_zero (n := j) hz)
        clear hz
        go_wp2_with fail
        go_ret
        exact ⟨ret_int HR.out.symm, rfl⟩
      · have HR := Lib.hid (dual_eq (n := j) hq ⟨hq1, hz⟩)
        clear hz hq1
        go_wp2_with fail
        go_ret
        exact ⟨ret_int HR.out.symm, rfl⟩
end Go.Proofs.Ytmdmojklagmmiaa
