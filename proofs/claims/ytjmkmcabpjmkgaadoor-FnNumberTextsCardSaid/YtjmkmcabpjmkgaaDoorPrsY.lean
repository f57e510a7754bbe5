/- ParseNumber of spec. -/
import Derived.Test.YtjmkmcabpjmkgaaDoorPrsX
namespace Go.Proofs.YtjmkmcabpjmkgaaDoor
open Go.RowKit
theorem vloop_range (l : List UInt8) : ∀ (k : Nat) (n : Int), k + l.length ≤ 9 → 0 ≤ n → n < 10 ^ k → -1 ≤ vloop n l ∧ vloop n l < 1000000000 := by
  induction l with
  | nil =>
    intro k n hk h0 h1
    have := vloop_bd [0,0,0,0,0,0,0,0,0] (by decide) k (by simp at hk ⊢; omega) n ⟨h0, h1⟩
    rw [vloop]; omega
  | cons b r ih =>
    intro k n hk h0 h1
    rw [vloop]
    split
    · omega
    · simp at hk
      refine ih (k + 1) _ (by omega) (by omega) ?_
      rw [Int.pow_succ]; omega
theorem spV_bd (s : List UInt8) : -1 ≤ spV s ∧ spV s < 1000000000 := by
  unfold spV
  split
  · omega
  · rename_i h
    exact vloop_range s 0 0 (by omega) (by omega) (by decide)
theorem spl_count (l : List UInt8) : ∀ cur, (spl cur l).length ≤ l.length + 1 := by
  induction l with
  | nil => intro cur; simp [spl]
  | cons b r ih =>
    intro cur
    rw [spl]
    split
    · have := ih []; simp; omega
    · have := ih (cur ++ [b]); simp; omega
theorem wm (u v : Int) (h0 : 0 ≤ u) (h1 : u < 55441) (g0 : 0 ≤ v) (g1 : v < 55441) : (wrap64 (u * v)).tmod 55441 = u * v % 55441 := by
  have a0 : 0 ≤ u * v := Int.mul_nonneg h0 g0
  have a1 : u * v ≤ 55440 * 55440 := Int.mul_le_mul (by omega) (by omega) g0 (by omega)
  generalize u * v = z at *
  have : wrap64 z = z := by first | exact IntWalk.i64_in z (by omega) | (unfold wrap64; omega)
  rw [this, Int.tmod_eq_emod_of_nonneg a0]
theorem specParse_no (t : List UInt8) (w : World) (ht : t.length ≤ 4294967280) (h0 : 0 < t.length) (hn : spNeg t = false) : Calls Tryd.prog 29 #[.string ⟨t.toArray⟩] w fun e w' => e = .returned (.tuple #[.int .i64 (prV t), .int .i64 (prC t)]) ∧ Below w.heap.size w w' := by
  have hB : spBody t = t := by unfold spBody; rw [hn]; rfl
  have hS : spSign t = 1 := by unfold spSign; rw [hn]; rfl
  have h45 : ((((⟨t.toArray⟩ : ByteArray)[0]'(by rw [ba_len]; omega)).toNat : Int) == 45) = false := by
    rw [beq_eq_false_iff_ne]
    cases t with
    | nil => simp at h0
    | cons b r =>
      intro h
      have h' : (b.toNat : Int) = 45 := h
      have : b = 45 := UInt8.toNat_inj.1 (by show b.toNat = 45; omega)
      subst this
      exact absurd hn (by unfold spNeg; simp)
  clear hn
  have hct := spl_count t []
  have hln := spl_len t []
  have HPs : Hid (spParts t = spl [] t) := Lib.hid (by unfold spParts; rw [hB])
  have HS := Lib.hid hS
  clear hB hS
  go_enter Tryd.func29, Tryd.ntmps29
  go_wp2_with fail
  refine (split_any t _ ht).mono ?_
  rintro e w1 ⟨v, rfl, hown, hb⟩
  have Hb := Lib.hid hb
  clear hb
  rcases hP : spl [] t with _ | ⟨x, _ | ⟨y, _ | ⟨z, r⟩⟩⟩
  · exact absurd hP (spl_ne _ _)
  · rw [hP] at hown hln
    have hlx : x.length ≤ 4294967280 := by have := hln x (by simp); simp at this; omega
    have hown1 : w1.ownsRow w.heap.size 9 1 v 1 (strs [x]) := hown
    obtain ⟨g, cap, rfl⟩ := Go.Joins.ownsRow_form hown1 (by omega)
    have hc0 : w1.cell? ⟨g, 0, none⟩ = some (.string ⟨x.toArray⟩) := (hown1.cellAt 0 (by omega)).trans rfl
    have hPx : spP t = spV x := by unfold spP; rw [HPs.out, hP]; rfl
    have hQx : spQ t = 1 := by unfold spQ; rw [HPs.out, hP]; rfl
    have hx := spV_bd x
    clear hown hown1 hln hct hP
    by_cases hp : spV x < 0
    · have HN := Lib.hid (pr_bad (t := t) (Or.inr (Or.inl (by rw [hPx]; exact hp))))
      clear hPx hQx
      go_wp2_with (first | (go_at_call 56; refine (value_any _ _ (by omega)).mono ?_; rintro e w' ⟨rfl, rfl⟩) | (go_at_call 57; refine (l01Mod_any _ _).mono ?_; rintro e w' ⟨rfl, rfl⟩) | (go_at_call 58; refine (l01Inv_any _ _ (by omega) (by omega)).mono ?_; rintro e w' ⟨rfl, rfl⟩))
      go_ret2
      exact ⟨ret_tup HN.out.1 HN.out.2, Hb.out⟩
    · have HA : Hid ((wrap64 (spV x % 55441 * pwI 1 55439)).tmod 55441 = spA t) := Lib.hid (by
        rw [wm _ _ (by omega) (by omega) (pwI_bd _ 55439).1 (pwI_bd _ 55439).2]
        unfold spA; rw [HS.out, hPx, hQx]
        rw [show 1 * (spV x % 55441) % 55441 = spV x % 55441 by omega]; rfl)
      have hA0 := spA_bd t
      clear hPx hQx
      go_wp2_with (first | (go_at_call 56; refine (value_any _ _ (by omega)).mono ?_; rintro e w' ⟨rfl, rfl⟩) | (go_at_call 57; refine (l01Mod_any _ _).mono ?_; rintro e w' ⟨rfl, rfl⟩) | (go_at_call 58; refine (l01Inv_any _ _ (by omega) (by omega)).mono ?_; rintro e w' ⟨rfl, rfl⟩))
      rw [HA.out]
      refine (l01Text_any _ _ (by omega) (by omega)).mono ?_
      rintro e w2 ⟨rfl, hb2⟩
      have Hb2 := Lib.hid (Hb.out.trans (hb2.mono Hb.out.size))
      clear hb2
      by_cases he : txtN (spA t) = t
      · have HR := Lib.hid (pr_speq he)
        rw [he]
        go_wp2_with fail
        go_ret2
        exact ⟨ret_tup HR.out.1 HR.out.2, Hb2.out⟩
      · have HR := Lib.hid (pr_spne he)
        have hne : (txtN (spA t) == t) = false := by simpa using he
        clear he
        go_wp2_with fail
        go_ret2
        exact ⟨ret_tup HR.out.1 HR.out.2, Hb2.out⟩
  · rw [hP] at hown hln
    have hlx : x.length ≤ 4294967280 := by have := hln x (by simp); simp at this; omega
    have hly : y.length ≤ 4294967280 := by have := hln y (by simp); simp at this; omega
    have hown1 : w1.ownsRow w.heap.size 9 1 v 2 (strs [x, y]) := hown
    obtain ⟨g, cap, rfl⟩ := Go.Joins.ownsRow_form hown1 (by omega)
    have hc0 : w1.cell? ⟨g, 0, none⟩ = some (.string ⟨x.toArray⟩) := (hown1.cellAt 0 (by omega)).trans rfl
    have hc1 : w1.cell? ⟨g, 1, none⟩ = some (.string ⟨y.toArray⟩) := (hown1.cellAt 1 (by omega)).trans rfl
    have hPx : spP t = spV x := by unfold spP; rw [HPs.out, hP]; rfl
    have hQx : spQ t = spV y := by unfold spQ; rw [HPs.out, hP]; rfl
    have hx := spV_bd x
    have hy := spV_bd y
    clear hown hown1 hln hct hP
    by_cases hp : spV x < 0
    · have HN := Lib.hid (pr_bad (t := t) (Or.inr (Or.inl (by rw [hPx]; exact hp))))
      clear hPx hQx
      go_wp2_with (first | (go_at_call 56; refine (value_any _ _ (by omega)).mono ?_; rintro e w' ⟨rfl, rfl⟩) | (go_at_call 57; refine (l01Mod_any _ _).mono ?_; rintro e w' ⟨rfl, rfl⟩) | (go_at_call 58; refine (l01Inv_any _ _ (by omega) (by omega)).mono ?_; rintro e w' ⟨rfl, rfl⟩))
      go_ret2
      exact ⟨ret_tup HN.out.1 HN.out.2, Hb.out⟩
    · by_cases hq : spV y < 1
      · have HN := Lib.hid (pr_bad (t := t) (Or.inr (Or.inr (Or.inl (by rw [hQx]; exact hq)))))
        clear hPx hQx
        go_wp2_with (first | (go_at_call 56; refine (value_any _ _ (by omega)).mono ?_; rintro e w' ⟨rfl, rfl⟩) | (go_at_call 57; refine (l01Mod_any _ _).mono ?_; rintro e w' ⟨rfl, rfl⟩) | (go_at_call 58; refine (l01Inv_any _ _ (by omega) (by omega)).mono ?_; rintro e w' ⟨rfl, rfl⟩))
        go_ret2
        exact ⟨ret_tup HN.out.1 HN.out.2, Hb.out⟩
      · by_cases hz : spV y % 55441 = 0
        · have HN := Lib.hid (pr_bad (t := t) (Or.inr (Or.inr (Or.inr (by rw [hQx]; exact hz)))))
          clear hPx hQx
          have hz' : (spV y % 55441 == 0) = true := by simpa using hz
          go_wp2_with (first | (go_at_call 56; refine (value_any _ _ (by omega)).mono ?_; rintro e w' ⟨rfl, rfl⟩) | (go_at_call 57; refine (l01Mod_any _ _).mono ?_; rintro e w' ⟨rfl, rfl⟩) | (go_at_call 58; refine (l01Inv_any _ _ (by omega) (by omega)).mono ?_; rintro e w' ⟨rfl, rfl⟩))
          go_ret2
          exact ⟨ret_tup HN.out.1 HN.out.2, Hb.out⟩
        · have hz' : (spV y % 55441 == 0) = false := by simpa using hz
          have HA : Hid ((wrap64 (spV x % 55441 * pwI (spV y % 55441) 55439)).tmod 55441 = spA t) := Lib.hid (by
            rw [wm _ _ (by omega) (by omega) (pwI_bd _ 55439).1 (pwI_bd _ 55439).2]
            unfold spA; rw [HS.out, hPx, hQx]
            rw [show 1 * (spV x % 55441) % 55441 = spV x % 55441 by omega])
          have hA0 := spA_bd t
          clear hPx hQx
          go_wp2_with (first | (go_at_call 56; refine (value_any _ _ (by omega)).mono ?_; rintro e w' ⟨rfl, rfl⟩) | (go_at_call 57; refine (l01Mod_any _ _).mono ?_; rintro e w' ⟨rfl, rfl⟩) | (go_at_call 58; refine (l01Inv_any _ _ (by omega) (by omega)).mono ?_; rintro e w' ⟨rfl, rfl⟩))
          rw [HA.out]
          refine (l01Text_any _ _ (by omega) (by omega)).mono ?_
          rintro e w2 ⟨rfl, hb2⟩
          have Hb2 := Lib.hid (Hb.out.trans (hb2.mono Hb.out.size))
          clear hb2
          by_cases he : txtN (spA t) = t
          · have HR := Lib.hid (pr_speq he)
            rw [he]
            go_wp2_with fail
            go_ret2
            exact ⟨ret_tup HR.out.1 HR.out.2, Hb2.out⟩
          · have HR := Lib.hid (pr_spne he)
            have hne : (txtN (spA t) == t) = false := by simpa using he
            clear he
            go_wp2_with fail
            go_ret2
            exact ⟨ret_tup HR.out.1 HR.out.2, Hb2.out⟩
  · rw [hP] at hown hln hct
    have hlx : x.length ≤ 4294967280 := by have := hln x (by simp); simp at this; omega
    have hown1 : w1.ownsRow w.heap.size 9 1 v (r.length + 3) (strs (x :: y :: z :: r)) := hown
    obtain ⟨g, cap, rfl⟩ := Go.Joins.ownsRow_form hown1 (by omega)
    have hc0 : w1.cell? ⟨g, 0, none⟩ = some (.string ⟨x.toArray⟩) := (hown1.cellAt 0 (by omega)).trans rfl
    have hrl : r.length ≤ 4294967280 := by simp at hct; omega
    have hx := spV_bd x
    have HN := Lib.hid (pr_bad (t := t) (Or.inl (by rw [HPs.out, hP]; simp)))
    clear hown hown1 hln hct hP
    go_wp2_with (first | (go_at_call 56; refine (value_any _ _ (by omega)).mono ?_; rintro e w' ⟨rfl, rfl⟩) | (go_at_call 57; refine (l01Mod_any _ _).mono ?_; rintro e w' ⟨rfl, rfl⟩) | (go_at_call 58; refine (l01Inv_any _ _ (by omega) (by omega)).mono ?_; rintro e w' ⟨rfl, rfl⟩))
    go_ret2
    exact ⟨ret_tup HN.out.1 HN.out.2, Hb.out⟩
theorem specParse_neg (t : List UInt8) (w : World) (ht : t.length ≤ 4294967280) (h0 : 0 < t.length) (hn : spNeg t = true) : Calls Tryd.prog 29 #[.string ⟨t.toArray⟩] w fun e w' => e = .returned (.tuple #[.int .i64 (prV t), .int .i64 (prC t)]) ∧ Below w.heap.size w w' := by
  have hB : spBody t = t.drop 1 := by unfold spBody; rw [hn]; rfl
  have hS : spSign t = -1 := by unfold spSign; rw [hn]; rfl
  have h45 : (((⟨t.toArray⟩ : ByteArray)[0]'(by rw [ba_len]; omega)).toNat : Int) = 45 := by
    cases t with
    | nil => simp at h0
    | cons b r =>
      have : b = 45 := by unfold spNeg at hn; simpa using hn
      subst this
      rfl
  clear hn
  have hld : (t.drop 1).length ≤ t.length := by simp
  have HX := Lib.hid (show (⟨t.toArray⟩ : ByteArray).extract 1 t.length = ⟨(t.drop 1).toArray⟩ by rw [ext_str]; congr 2; rw [List.take_of_length_le (by simp)])
  have HPs : Hid (spParts t = spl [] (t.drop 1)) := Lib.hid (by unfold spParts; rw [hB])
  generalize t.drop 1 = B at HX HPs hld
  have hct := spl_count B []
  have hln := spl_len B []
  have HS := Lib.hid hS
  clear hB hS
  go_enter Tryd.func29, Tryd.ntmps29
  go_wp2_with fail
  rw [HX.out]
  refine (split_any B _ (by omega)).mono ?_
  rintro e w1 ⟨v, rfl, hown, hb⟩
  have Hb := Lib.hid hb
  clear hb
  rcases hP : spl [] B with _ | ⟨x, _ | ⟨y, _ | ⟨z, r⟩⟩⟩
  · exact absurd hP (spl_ne _ _)
  · rw [hP] at hown hln
    have hlx : x.length ≤ 4294967280 := by have := hln x (by simp); simp at this; omega
    have hown1 : w1.ownsRow w.heap.size 9 1 v 1 (strs [x]) := hown
    obtain ⟨g, cap, rfl⟩ := Go.Joins.ownsRow_form hown1 (by omega)
    have hc0 : w1.cell? ⟨g, 0, none⟩ = some (.string ⟨x.toArray⟩) := (hown1.cellAt 0 (by omega)).trans rfl
    have hPx : spP t = spV x := by unfold spP; rw [HPs.out, hP]; rfl
    have hQx : spQ t = 1 := by unfold spQ; rw [HPs.out, hP]; rfl
    have hx := spV_bd x
    clear hown hown1 hln hct hP
    by_cases hp : spV x < 0
    · have HN := Lib.hid (pr_bad (t := t) (Or.inr (Or.inl (by rw [hPx]; exact hp))))
      clear hPx hQx
      go_wp2_with (first | (go_at_call 56; refine (value_any _ _ (by omega)).mono ?_; rintro e w' ⟨rfl, rfl⟩) | (go_at_call 57; refine (l01Mod_any _ _).mono ?_; rintro e w' ⟨rfl, rfl⟩) | (go_at_call 58; refine (l01Inv_any _ _ (by omega) (by omega)).mono ?_; rintro e w' ⟨rfl, rfl⟩))
      go_ret2
      exact ⟨ret_tup HN.out.1 HN.out.2, Hb.out⟩
    · have HA : Hid ((wrap64 (-(spV x % 55441) % 55441 * pwI 1 55439)).tmod 55441 = spA t) := Lib.hid (by
        rw [wm _ _ (by omega) (by omega) (pwI_bd _ 55439).1 (pwI_bd _ 55439).2]
        unfold spA; rw [HS.out, hPx, hQx]
        rw [show -1 * (spV x % 55441) % 55441 = -(spV x % 55441) % 55441 by omega]; rfl)
      have hA0 := spA_bd t
      clear hPx hQx
      go_wp2_with (first | (go_at_call 56; refine (value_any _ _ (by omega)).mono ?_; rintro e w' ⟨rfl, rfl⟩) | (go_at_call 57; refine (l01Mod_any _ _).mono ?_; rintro e w' ⟨rfl, rfl⟩) | (go_at_call 58; refine (l01Inv_any _ _ (by omega) (by omega)).mono ?_; rintro e w' ⟨rfl, rfl⟩))
      rw [HA.out]
      refine (l01Text_any _ _ (by omega) (by omega)).mono ?_
      rintro e w2 ⟨rfl, hb2⟩
      have Hb2 := Lib.hid (Hb.out.trans (hb2.mono Hb.out.size))
      clear hb2
      by_cases he : txtN (spA t) = t
      · have HR := Lib.hid (pr_speq he)
        rw [he]
        go_wp2_with fail
        go_ret2
        exact ⟨ret_tup HR.out.1 HR.out.2, Hb2.out⟩
      · have HR := Lib.hid (pr_spne he)
        have hne : (txtN (spA t) == t) = false := by simpa using he
        clear he
        go_wp2_with fail
        go_ret2
        exact ⟨ret_tup HR.out.1 HR.out.2, Hb2.out⟩
  · rw [hP] at hown hln
    have hlx : x.length ≤ 4294967280 := by have := hln x (by simp); simp at this; omega
    have hly : y.length ≤ 4294967280 := by have := hln y (by simp); simp at this; omega
    have hown1 : w1.ownsRow w.heap.size 9 1 v 2 (strs [x, y]) := hown
    obtain ⟨g, cap, rfl⟩ := Go.Joins.ownsRow_form hown1 (by omega)
    have hc0 : w1.cell? ⟨g, 0, none⟩ = some (.string ⟨x.toArray⟩) := (hown1.cellAt 0 (by omega)).trans rfl
    have hc1 : w1.cell? ⟨g, 1, none⟩ = some (.string ⟨y.toArray⟩) := (hown1.cellAt 1 (by omega)).trans rfl
    have hPx : spP t = spV x := by unfold spP; rw [HPs.out, hP]; rfl
    have hQx : spQ t = spV y := by unfold spQ; rw [HPs.out, hP]; rfl
    have hx := spV_bd x
    have hy := spV_bd y
    clear hown hown1 hln hct hP
    by_cases hp : spV x < 0
    · have HN := Lib.hid (pr_bad (t := t) (Or.inr (Or.inl (by rw [hPx]; exact hp))))
      clear hPx hQx
      go_wp2_with (first | (go_at_call 56; refine (value_any _ _ (by omega)).mono ?_; rintro e w' ⟨rfl, rfl⟩) | (go_at_call 57; refine (l01Mod_any _ _).mono ?_; rintro e w' ⟨rfl, rfl⟩) | (go_at_call 58; refine (l01Inv_any _ _ (by omega) (by omega)).mono ?_; rintro e w' ⟨rfl, rfl⟩))
      go_ret2
      exact ⟨ret_tup HN.out.1 HN.out.2, Hb.out⟩
    · by_cases hq : spV y < 1
      · have HN := Lib.hid (pr_bad (t := t) (Or.inr (Or.inr (Or.inl (by rw [hQx]; exact hq)))))
        clear hPx hQx
        go_wp2_with (first | (go_at_call 56; refine (value_any _ _ (by omega)).mono ?_; rintro e w' ⟨rfl, rfl⟩) | (go_at_call 57; refine (l01Mod_any _ _).mono ?_; rintro e w' ⟨rfl, rfl⟩) | (go_at_call 58; refine (l01Inv_any _ _ (by omega) (by omega)).mono ?_; rintro e w' ⟨rfl, rfl⟩))
        go_ret2
        exact ⟨ret_tup HN.out.1 HN.out.2, Hb.out⟩
      · by_cases hz : spV y % 55441 = 0
        · have HN := Lib.hid (pr_bad (t := t) (Or.inr (Or.inr (Or.inr (by rw [hQx]; exact hz)))))
          clear hPx hQx
          have hz' : (spV y % 55441 == 0) = true := by simpa using hz
          go_wp2_with (first | (go_at_call 56; refine (value_any _ _ (by omega)).mono ?_; rintro e w' ⟨rfl, rfl⟩) | (go_at_call 57; refine (l01Mod_any _ _).mono ?_; rintro e w' ⟨rfl, rfl⟩) | (go_at_call 58; refine (l01Inv_any _ _ (by omega) (by omega)).mono ?_; rintro e w' ⟨rfl, rfl⟩))
          go_ret2
          exact ⟨ret_tup HN.out.1 HN.out.2, Hb.out⟩
        · have hz' : (spV y % 55441 == 0) = false := by simpa using hz
          have HA : Hid ((wrap64 (-(spV x % 55441) % 55441 * pwI (spV y % 55441) 55439)).tmod 55441 = spA t) := Lib.hid (by
            rw [wm _ _ (by omega) (by omega) (pwI_bd _ 55439).1 (pwI_bd _ 55439).2]
            unfold spA; rw [HS.out, hPx, hQx]
            rw [show -1 * (spV x % 55441) % 55441 = -(spV x % 55441) % 55441 by omega])
          have hA0 := spA_bd t
          clear hPx hQx
          go_wp2_with (first | (go_at_call 56; refine (value_any _ _ (by omega)).mono ?_; rintro e w' ⟨rfl, rfl⟩) | (go_at_call 57; refine (l01Mod_any _ _).mono ?_; rintro e w' ⟨rfl, rfl⟩) | (go_at_call 58; refine (l01Inv_any _ _ (by omega) (by omega)).mono ?_; rintro e w' ⟨rfl, rfl⟩))
          rw [HA.out]
          refine (l01Text_any _ _ (by omega) (by omega)).mono ?_
          rintro e w2 ⟨rfl, hb2⟩
          have Hb2 := Lib.hid (Hb.out.trans (hb2.mono Hb.out.size))
          clear hb2
          by_cases he : txtN (spA t) = t
          · have HR := Lib.hid (pr_speq he)
            rw [he]
            go_wp2_with fail
            go_ret2
            exact ⟨ret_tup HR.out.1 HR.out.2, Hb2.out⟩
          · have HR := Lib.hid (pr_spne he)
            have hne : (txtN (spA t) == t) = false := by simpa using he
            clear he
            go_wp2_with fail
            go_ret2
            exact ⟨ret_tup HR.out.1 HR.out.2, Hb2.out⟩
  · rw [hP] at hown hln hct
    have hlx : x.length ≤ 4294967280 := by have := hln x (by simp); simp at this; omega
    have hown1 : w1.ownsRow w.heap.size 9 1 v (r.length + 3) (strs (x :: y :: z :: r)) := hown
    obtain ⟨g, cap, rfl⟩ := Go.Joins.ownsRow_form hown1 (by omega)
    have hc0 : w1.cell? ⟨g, 0, none⟩ = some (.string ⟨x.toArray⟩) := (hown1.cellAt 0 (by omega)).trans rfl
    have hrl : r.length ≤ 4294967280 := by simp at hct; omega
    have hx := spV_bd x
    have HN := Lib.hid (pr_bad (t := t) (Or.inl (by rw [HPs.out, hP]; simp)))
    clear hown hown1 hln hct hP
    go_wp2_with (first | (go_at_call 56; refine (value_any _ _ (by omega)).mono ?_; rintro e w' ⟨rfl, rfl⟩) | (go_at_call 57; refine (l01Mod_any _ _).mono ?_; rintro e w' ⟨rfl, rfl⟩) | (go_at_call 58; refine (l01Inv_any _ _ (by omega) (by omega)).mono ?_; rintro e w' ⟨rfl, rfl⟩))
    go_ret2
    exact ⟨ret_tup HN.out.1 HN.out.2, Hb.out⟩
theorem specParse_any (t : List UInt8) (w : World) (ht : t.length ≤ 4294967280) : Calls Tryd.prog 29 #[.string ⟨t.toArray⟩] w fun e w' => e = .returned (.tuple #[.int .i64 (prV t), .int .i64 (prC t)]) ∧ Below w.heap.size w w' := by
  by_cases h0 : 0 < t.length
  · cases hn : spNeg t
    · exact specParse_no t w ht h0 hn
    · exact specParse_neg t w ht h0 hn
  · obtain rfl : t = [] := List.length_eq_zero_iff.1 (by omega)
    have HN := Lib.hid (pr_bad (t := []) (Or.inr (Or.inl (by decide))))
    go_enter Tryd.func29, Tryd.ntmps29
    go_wp2_with fail
    refine (split_any [] _ (by decide)).mono ?_
    rintro e w1 ⟨v, rfl, hown, hb⟩
    have hown1 : w1.ownsRow w.heap.size 9 1 v 1 (strs [[]]) := hown
    obtain ⟨g, cap, rfl⟩ := Go.Joins.ownsRow_form hown1 (by omega)
    have hc0 : w1.cell? ⟨g, 0, none⟩ = some (.string ⟨#[]⟩) := (hown1.cellAt 0 (by omega)).trans rfl
    clear hown hown1
    go_wp2_with fail
    refine (value_any [] _ (by decide)).mono ?_
    rintro e w2 ⟨rfl, rfl⟩
    have hx : spV [] = -1 := rfl
    rw [hx]
    go_wp2_with (first | (go_at_call 57; refine (l01Mod_any _ _).mono ?_; rintro e w' ⟨rfl, rfl⟩))
    go_ret2
    exact ⟨ret_tup HN.out.1 HN.out.2, hb⟩
end Go.Proofs.YtjmkmcabpjmkgaaDoor
