/- walk test -/
import Derived.Test.YtjmkmcabpjmkgaaDoorTxt
namespace Go.Proofs.YtjmkmcabpjmkgaaDoor
open Go.RowKit
set_option maxHeartbeats 8000000 in
set_option maxRecDepth 100000 in
theorem walkTexts (w : World) (a0 : Option Addr) (n0 c0 : Nat) (xs0 : List Int) (r0 : RdB w a0 n0 xs0) (hLib : LibOk w.heap.size w) :
    Calls Tryd.prog 4 #[.slice a0 n0 c0] w fun e w' => e = .returned (.bool true) ∧ Below w.heap.size w w' := by
  have HL := Lib.hid hLib
  clear hLib
  by_cases hn0 : n0 ≤ 4096
  · have hd0 : decide (4096 < (n0 : Int)) = false := by simp; omega
    have R0 := Lib.hid r0
    go_enter Tryd.func4, Tryd.ntmps4
    go_wp2_with (go_at_call 6; refine (big_any _ _ _ _).mono ?_; rintro e w' ⟨rfl, rfl⟩)
    refine (drawText_any _ _ _ xs0 _ R0.out hn0).mono ?_
    rintro e w1 ⟨a, ha, rfl, b1⟩
    have HL1 := Lib.hid ((HL.out.below b1).up b1.size)
    have B1 := Lib.hid b1
    clear b1
    cases hna : numB a
    · have f1 : cText a = 2 := by simp [cText, hna]
      have f2 : sText a = [] := by simp [sText, hna]
      have f3 : cShort a = 2 := by simp [cShort, hna]
      have f4 : fsp a = 0 := by simp [fsp, hna]
      have f5 : fsq a = 0 := by simp [fsq, hna]
      have hIT := fun w hP hG => implText_any a w hP hG
      have hST := fun w => specText_any a w
      have hIS := fun w => implShort_any a w
      have hSS := fun w => specShort_any a w
      simp only [f1, f2, f3, f4, f5] at hIT hST hIS hSS
      have HIT := Lib.hid hIT
      have HST := Lib.hid hST
      have HIS := Lib.hid hIS
      have HSS := Lib.hid hSS
      clear hIT hST hIS hSS
      go_wp2_with fail
      refine (HIT.out _ HL1.out.pow HL1.out.powLt).mono ?_
      rintro e w2 ⟨rfl, b2⟩
      have HL2 := Lib.hid ((HL1.out.below b2).up b2.size)
      have B2 := Lib.hid (B1.out.trans (b2.mono B1.out.size))
      clear b2
      go_wp2_with fail
      refine (HST.out _).mono ?_
      rintro e w3 ⟨rfl, b3⟩
      have HL3 := Lib.hid ((HL2.out.below b3).up b3.size)
      have B3 := Lib.hid (B2.out.trans (b3.mono B2.out.size))
      clear b3
      go_wp2_with fail
      refine (HIS.out _).mono ?_
      rintro e w' ⟨rfl, rfl⟩
      go_wp2_with fail
      refine (HSS.out _).mono ?_
      rintro e w' ⟨rfl, rfl⟩
      clear f1 f2 f3 f4 f5
      have LL := HL3
      have BB := B3
      have R := Lib.hid (R0.out.below BB.out (Nat.le_refl _))
      go_wp2_with fail
      refine (drawParse_any _ _ _ xs0 _ R.out hn0).mono ?_
      rintro e w5 ⟨T, rfl, hT, b5⟩
      have HL5 := Lib.hid ((LL.out.below b5).up b5.size)
      have B5 := Lib.hid (BB.out.trans (b5.mono BB.out.size))
      clear b5
      go_wp2_with fail
      refine (implParse_any T _ HL5.out (by omega)).mono ?_
      rintro e w6 ⟨rfl, b6⟩
      have HL6 := Lib.hid ((HL5.out.below b6).up b6.size)
      have B6 := Lib.hid (B5.out.trans (b6.mono B5.out.size))
      clear b6
      go_wp2_with fail
      refine (specParse_any T _ (by omega)).mono ?_
      rintro e w7 ⟨rfl, b7⟩
      have HL7 := Lib.hid ((HL6.out.below b7).up b7.size)
      have B7 := Lib.hid (B6.out.trans (b7.mono B6.out.size))
      clear b7
      by_cases hc : prC T = 0
      · obtain ⟨g1, g2⟩ := pr_good hc
        have hIT := fun w hP hG => implText_any (prV T) w hP hG
        have ct : cText (prV T) = 0 := by simp [cText, g1]
        have st : sText (prV T) = T := by simp [sText, g1, g2]
        simp only [ct, st] at hIT
        have HIT := Lib.hid hIT
        clear hIT ct st g1 g2
        rw [hc]
        go_wp2_with fail
        refine (HIT.out _ HL7.out.pow HL7.out.powLt).mono ?_
        rintro e w8 ⟨rfl, b8⟩
        have B8 := Lib.hid (B7.out.trans (b8.mono B7.out.size))
        clear b8
        go_wp2_with fail
        go_ret
        exact ⟨rfl, B8.out⟩
      · go_wp2_with fail
        go_ret
        exact ⟨rfl, B7.out⟩
    · have f1 : cText a = 0 := by simp [cText, hna]
      have f2 : sText a = txtN a := by simp [sText, hna]
      obtain ⟨na0, na1⟩ := numB_t hna
      have hl := txtN_len a na0 (by omega)
      by_cases hq : sq a = 0
      · have f3 : cShort a = 4 := by simp [cShort, hna, hq]
        have f4 : fsp a = 0 := by simp [fsp, hna, hq]
        have f5 : fsq a = 0 := by simp [fsq, hna, hq]
        have hIT := fun w hP hG => implText_any a w hP hG
        have hST := fun w => specText_any a w
        have hIS := fun w => implShort_any a w
        have hSS := fun w => specShort_any a w
        simp only [f1, f2, f3, f4, f5] at hIT hST hIS hSS
        have HIT := Lib.hid hIT
        have HST := Lib.hid hST
        have HIS := Lib.hid hIS
        have HSS := Lib.hid hSS
        clear hIT hST hIS hSS
        go_wp2_with fail
        refine (HIT.out _ HL1.out.pow HL1.out.powLt).mono ?_
        rintro e w2 ⟨rfl, b2⟩
        have HL2 := Lib.hid ((HL1.out.below b2).up b2.size)
        have B2 := Lib.hid (B1.out.trans (b2.mono B1.out.size))
        clear b2
        go_wp2_with fail
        refine (HST.out _).mono ?_
        rintro e w3 ⟨rfl, b3⟩
        have HL3 := Lib.hid ((HL2.out.below b3).up b3.size)
        have B3 := Lib.hid (B2.out.trans (b3.mono B2.out.size))
        clear b3
        go_wp2_with fail
        refine (HIS.out _).mono ?_
        rintro e w' ⟨rfl, rfl⟩
        go_wp2_with fail
        refine (HSS.out _).mono ?_
        rintro e w' ⟨rfl, rfl⟩
        clear f1 f2 f3 f4 f5
        go_wp2_with fail
        refine (implParse_any (txtN a) _ HL3.out (by omega)).mono ?_
        rintro e w4 ⟨rfl, b4⟩
        rw [(pr_txt hna).1, (pr_txt hna).2]
        have LL := Lib.hid ((HL3.out.below b4).up b4.size)
        have BB := Lib.hid (B3.out.trans (b4.mono B3.out.size))
        have R := Lib.hid (R0.out.below BB.out (Nat.le_refl _))
        clear b4
        go_wp2_with fail
        refine (drawParse_any _ _ _ xs0 _ R.out hn0).mono ?_
        rintro e w5 ⟨T, rfl, hT, b5⟩
        have HL5 := Lib.hid ((LL.out.below b5).up b5.size)
        have B5 := Lib.hid (BB.out.trans (b5.mono BB.out.size))
        clear b5
        go_wp2_with fail
        refine (implParse_any T _ HL5.out (by omega)).mono ?_
        rintro e w6 ⟨rfl, b6⟩
        have HL6 := Lib.hid ((HL5.out.below b6).up b6.size)
        have B6 := Lib.hid (B5.out.trans (b6.mono B5.out.size))
        clear b6
        go_wp2_with fail
        refine (specParse_any T _ (by omega)).mono ?_
        rintro e w7 ⟨rfl, b7⟩
        have HL7 := Lib.hid ((HL6.out.below b7).up b7.size)
        have B7 := Lib.hid (B6.out.trans (b7.mono B6.out.size))
        clear b7
        by_cases hc : prC T = 0
        · obtain ⟨g1, g2⟩ := pr_good hc
          have hIT := fun w hP hG => implText_any (prV T) w hP hG
          have ct : cText (prV T) = 0 := by simp [cText, g1]
          have st : sText (prV T) = T := by simp [sText, g1, g2]
          simp only [ct, st] at hIT
          have HIT := Lib.hid hIT
          clear hIT ct st g1 g2
          rw [hc]
          go_wp2_with fail
          refine (HIT.out _ HL7.out.pow HL7.out.powLt).mono ?_
          rintro e w8 ⟨rfl, b8⟩
          have B8 := Lib.hid (B7.out.trans (b8.mono B7.out.size))
          clear b8
          go_wp2_with fail
          go_ret
          exact ⟨rfl, B8.out⟩
        · go_wp2_with fail
          go_ret
          exact ⟨rfl, B7.out⟩
      · have f3 : cShort a = 0 := by simp [cShort, hna, hq]
        have f4 : fsp a = sp a := by simp [fsp, hna, hq]
        have f5 : fsq a = sq a := by simp [fsq, hna, hq]
        obtain ⟨s0, s1, s2⟩ := short_back a hq
        obtain ⟨p0, p1, _, _⟩ := sp_bd a
        have hIT := fun w hP hG => implText_any a w hP hG
        have hST := fun w => specText_any a w
        have hIS := fun w => implShort_any a w
        have hSS := fun w => specShort_any a w
        simp only [f1, f2, f3, f4, f5] at hIT hST hIS hSS
        have HIT := Lib.hid hIT
        have HST := Lib.hid hST
        have HIS := Lib.hid hIS
        have HSS := Lib.hid hSS
        clear hIT hST hIS hSS
        go_wp2_with fail
        refine (HIT.out _ HL1.out.pow HL1.out.powLt).mono ?_
        rintro e w2 ⟨rfl, b2⟩
        have HL2 := Lib.hid ((HL1.out.below b2).up b2.size)
        have B2 := Lib.hid (B1.out.trans (b2.mono B1.out.size))
        clear b2
        go_wp2_with fail
        refine (HST.out _).mono ?_
        rintro e w3 ⟨rfl, b3⟩
        have HL3 := Lib.hid ((HL2.out.below b3).up b3.size)
        have B3 := Lib.hid (B2.out.trans (b3.mono B2.out.size))
        clear b3
        go_wp2_with fail
        refine (HIS.out _).mono ?_
        rintro e w' ⟨rfl, rfl⟩
        go_wp2_with fail
        refine (HSS.out _).mono ?_
        rintro e w' ⟨rfl, rfl⟩
        clear f1 f2 f3 f4 f5
        go_wp2_with fail
        refine (implParse_any (txtN a) _ HL3.out (by omega)).mono ?_
        rintro e w4 ⟨rfl, b4⟩
        rw [(pr_txt hna).1, (pr_txt hna).2]
        have LL := Lib.hid ((HL3.out.below b4).up b4.size)
        have BB := Lib.hid (B3.out.trans (b4.mono B3.out.size))
        have R := Lib.hid (R0.out.below BB.out (Nat.le_refl _))
        clear b4
        have mb : 0 ≤ a * sq a ∧ a * sq a ≤ 55441 * 166 := ⟨Int.mul_nonneg na0 (by omega), Int.mul_le_mul (by omega) s1 (by omega) (by omega)⟩
        have w1' : IntKind.i64.wrap (a * sq a) = a * sq a := IntWalk.i64_in _ (by omega)
        have w2' : IntKind.i64.wrap (a * sq a - sp a) = a * sq a - sp a := IntWalk.i64_in _ (by omega)
        go_wp2_with (go_at_call 20; refine (mod5_any _ _).mono ?_; rintro e w' ⟨rfl, rfl⟩)
        refine (drawParse_any _ _ _ xs0 _ R.out hn0).mono ?_
        rintro e w5 ⟨T, rfl, hT, b5⟩
        have HL5 := Lib.hid ((LL.out.below b5).up b5.size)
        have B5 := Lib.hid (BB.out.trans (b5.mono BB.out.size))
        clear b5
        go_wp2_with fail
        refine (implParse_any T _ HL5.out (by omega)).mono ?_
        rintro e w6 ⟨rfl, b6⟩
        have HL6 := Lib.hid ((HL5.out.below b6).up b6.size)
        have B6 := Lib.hid (B5.out.trans (b6.mono B5.out.size))
        clear b6
        go_wp2_with fail
        refine (specParse_any T _ (by omega)).mono ?_
        rintro e w7 ⟨rfl, b7⟩
        have HL7 := Lib.hid ((HL6.out.below b7).up b7.size)
        have B7 := Lib.hid (B6.out.trans (b7.mono B6.out.size))
        clear b7
        by_cases hc : prC T = 0
        · obtain ⟨g1, g2⟩ := pr_good hc
          have hIT := fun w hP hG => implText_any (prV T) w hP hG
          have ct : cText (prV T) = 0 := by simp [cText, g1]
          have st : sText (prV T) = T := by simp [sText, g1, g2]
          simp only [ct, st] at hIT
          have HIT := Lib.hid hIT
          clear hIT ct st g1 g2
          rw [hc]
          go_wp2_with fail
          refine (HIT.out _ HL7.out.pow HL7.out.powLt).mono ?_
          rintro e w8 ⟨rfl, b8⟩
          have B8 := Lib.hid (B7.out.trans (b8.mono B7.out.size))
          clear b8
          go_wp2_with fail
          go_ret
          exact ⟨rfl, B8.out⟩
        · go_wp2_with fail
          go_ret
          exact ⟨rfl, B7.out⟩
  · have hd0 : decide (4096 < (n0 : Int)) = true := by simp; omega
    go_enter Tryd.func4, Tryd.ntmps4
    go_wp2_with (go_at_call 6; refine (big_any _ _ _ _).mono ?_; rintro e w' ⟨rfl, rfl⟩)
    go_ret
    exact ⟨rfl, Below.refl _ _⟩
end Go.Proofs.YtjmkmcabpjmkgaaDoor
