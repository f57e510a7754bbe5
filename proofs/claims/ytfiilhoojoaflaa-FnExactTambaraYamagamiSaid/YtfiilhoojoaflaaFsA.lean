/- Families of rings (the specification's): the functions of chapter 6, but products and dihedral rings. -/
import Derived.Test.YtfiilhoojoaflaaFpM
import Derived.Test.YtfiilhoojoaflaaNum
import Derived.Handy
namespace Go.Proofs.Ytfiilhoojoaflaa
open Go.RowKit
set_option linter.unusedSimpArgs false
set_option linter.unusedVariables false
theorem l06Orders_f (a : Option Addr) (n c : Nat) (o : Nat → Int) (w : World) (h : RdR w a n o) (hn : n ≤ 9000000000) :
    Calls Try.prog 73 #[.slice a n c] w fun e w' => e = .returned (.bool (ordB n o)) ∧ w = w' := by
  have H := Lib.hid h
  clear h
  go_enter Try.func73, Try.ntmps73
  go_wp2_with fail
  go_loop [3] (fun i => ∃ q : Nat, q ≤ n ∧ i = .int .i64 q ∧ ∀ i, i < q → 1 ≤ o i) (fun i => n - (intOf i).toNat)
  case atStart => exact ⟨0, by omega, rfl, fun i hi => absurd hi (by omega)⟩
  case round =>
    obtain ⟨q, hq, rfl, hall⟩ := hrel
    have HA := Lib.hid hall
    clear hall
    by_cases hqn : q < n
    · obtain ⟨b, off, rfl, hb, hc⟩ := H.out.open (by omega)
      have e1 := hc q hqn
      clear hc
      by_cases hx : o q < 1
      · have HF := Lib.hid (ordB_no hqn (show ¬ 1 ≤ o q by omega))
        go_wp2_with fail
        go_ret
        exact ⟨ret_bool HF.out.symm, rfl⟩
      · have HA2 := Lib.hid (show ∀ i, i < q + 1 → 1 ≤ o i from fun i hi => by
          by_cases e : i = q
          · rw [e]; omega
          · exact HA.out i (by omega))
        go_wp2_with fail
        exact ⟨⟨q + 1, by omega, by go_num, HA2.out⟩, by simp [intOf]; omega⟩
    · obtain rfl : q = n := by omega
      by_cases h0 : q = 0
      · subst h0
        have HF := Lib.hid (ordB_zero (o := o))
        go_wp2_with fail
        go_ret
        exact ⟨ret_bool HF.out.symm, rfl⟩
      · have HF := Lib.hid (ordB_mk (show 0 < q by omega) HA.out)
        go_wp2_with fail
        go_ret
        exact ⟨by rw [HF.out]; simp; omega, rfl⟩
/-- the code of orders with r labels more -/
def ordC (n : Nat) (o : Nat → Int) (r : Nat) : Int := if ordB n o = true then (if 16 < gN n o + r then 3 else 0) else 1
theorem l06Code_f (a : Option Addr) (n c r : Nat) (o : Nat → Int) (w : World) (h : RdR w a n o) (hn : n ≤ 9000000000) (hr : r ≤ 100) :
    Calls Try.prog 51 #[.slice a n c, .int .i64 r] w fun e w' => e = .returned (.int .i64 (ordC n o r)) ∧ w = w' := by
  have HO := Lib.hid (l06Orders_f a n c o w h hn)
  cases hb : ordB n o
  · rw [hb] at HO
    have HF := Lib.hid (show ordC n o r = 1 by unfold ordC; rw [hb]; rfl)
    go_enter Try.func51, Try.ntmps51
    go_wp2_with fail
    refine HO.out.mono ?_
    rintro e w1 ⟨rfl, rfl⟩
    go_wp2_with fail
    go_ret
    exact ⟨by rw [HF.out] <;> rfl, rfl⟩
  · rw [hb] at HO
    obtain ⟨g1, g2, g3, g4, g5⟩ := gN_eq (ordB_t hb).2
    have HS := Lib.hid (l06Size_f a n c o 16 w h (ordB_t hb).2 hn (by omega) (by omega))
    rw [g1] at HS
    have HF := Lib.hid (show ordC n o r = if 16 < gN n o + r then 3 else 0 by unfold ordC; rw [hb]; rfl)
    obtain ⟨N, hN⟩ : ∃ N, N = gN n o := ⟨_, rfl⟩
    rw [← hN] at HS HF g3 g4
    clear hN g1 g2 g5
    have hw : IntKind.i64.wrap ((N : Int) + (r : Int)) = (N : Int) + (r : Int) := IntWalk.i64_in _ (by omega)
    by_cases hbig : 16 < N + r
    · have HG := Lib.hid (show ordC n o r = 3 by rw [HF.out, if_pos hbig])
      go_enter Try.func51, Try.ntmps51
      go_wp2_with fail
      refine HO.out.mono ?_
      rintro e w1 ⟨rfl, rfl⟩
      go_wp2_with fail
      refine HS.out.mono ?_
      rintro e w1 ⟨rfl, rfl⟩
      go_wp2_with fail
      go_ret
      exact ⟨by rw [HG.out] <;> rfl, rfl⟩
    · have HG := Lib.hid (show ordC n o r = 0 by rw [HF.out, if_neg hbig])
      go_enter Try.func51, Try.ntmps51
      go_wp2_with fail
      refine HO.out.mono ?_
      rintro e w1 ⟨rfl, rfl⟩
      go_wp2_with fail
      refine HS.out.mono ?_
      rintro e w1 ⟨rfl, rfl⟩
      go_wp2_with fail
      go_ret
      exact ⟨by rw [HG.out] <;> rfl, rfl⟩
/-- the code of the arguments of a group ring, without the limit -/
def cdG (n : Nat) (o : Nat → Int) : Int := if ordB n o = true then 0 else 1
/-- the table of a group ring -/
def grT (n : Nat) (o : Nat → Int) : Nat → Nat → Nat → Int := grpF o n (gN n o)
theorem specGrp_f (a : Option Addr) (n c : Nat) (o : Nat → Int) (w : World) (h : RdR w a n o) (hn : n ≤ 1048576) :
    Calls Try.prog 21 #[.slice a n c] w (RingRes w (rnkF (cdG n o) (gN n o) (grT n o)) (fun _ => gN n o) (fun _ _ => gN n o) (grT n o) (codF (cdG n o) (gN n o) (grT n o))) := by
  have HC := Lib.hid (fun u (hu : Below w.heap.size w u) => l06Code_f a n c 0 o u (h.below hu (Nat.le_refl _)) (by omega) (by omega))
  obtain ⟨W, hW, hW0, hWs, hKR⟩ := res_start w
  have HW0 := Lib.hid hW0
  have HWs := Lib.hid hWs
  have KR := Lib.hid hKR
  have HWe := Lib.hid hW
  clear hW hW0 hWs hKR
  cases hb : ordB n o
  · have hc : ordC n o 0 = 1 := by unfold ordC; rw [hb]; rfl
    rw [hc] at HC
    have HF := Lib.hid (codF_arg (code := cdG n o) (n := gN n o) (f := grT n o) (by unfold cdG; rw [hb]; decide))
    have hcd : cdG n o = 1 := by unfold cdG; rw [hb]; rfl
    rw [hcd] at HF ⊢
    clear hc hcd h hb
    go_enter Try.func21, Try.ntmps21
    go_wp2_with fail
    rw [← HWe.out]
    refine (HC.out _ HW0.out).mono ?_
    rintro e w1 ⟨rfl, rfl⟩
    obtain ⟨e1, e2, e3⟩ := res_cells KR.out (.slice none 0 0)
    go_wp2_with fail
    refine bodyPost_ret (v := .tuple #[.agg #[.slice none 0 0], .int .i64 1]) (by simp [results, Try.results21, go_sem, e3]) rfl ?_
    exact ringRes_none HF.out.2 HF.out.1.symm (HW0.out.setCell (Nat.le_refl _) _)
  · obtain ⟨g1, g2, g3, g4, g5⟩ := gN_eq (ordB_t hb).2
    have hcd : cdG n o = 0 := by unfold cdG; rw [hb]; rfl
    rw [hcd]
    by_cases hbig : 16 < gN n o
    · have hc : ordC n o 0 = 3 := by unfold ordC; rw [hb, if_pos rfl, if_pos (by omega)]
      rw [hc] at HC
      have HF := Lib.hid (codF_big (f := grT n o) hbig)
      clear hc hcd h hb
      go_enter Try.func21, Try.ntmps21
      go_wp2_with fail
      rw [← HWe.out]
      refine (HC.out _ HW0.out).mono ?_
      rintro e w1 ⟨rfl, rfl⟩
      obtain ⟨e1, e2, e3⟩ := res_cells KR.out (.slice none 0 0)
      go_wp2_with fail
      refine bodyPost_ret (v := .tuple #[.agg #[.slice none 0 0], .int .i64 3]) (by simp [results, Try.results21, go_sem, e3]) rfl ?_
      exact ringRes_none HF.out.2 HF.out.1.symm (HW0.out.setCell (Nat.le_refl _) _)
    have hc : ordC n o 0 = 0 := by unfold ordC; rw [hb, if_pos rfl, if_neg (by omega)]
    rw [hc] at HC
    have hcub := cub_of g3 (by omega) (f := grT n o) (fun i j k _ _ _ => by have := grpF_bd o n (gN n o) i j k; show 0 ≤ grpF o n (gN n o) i j k ∧ grpF o n (gN n o) i j k ≤ 1000; omega)
    have HF := Lib.hid (codF_yes hbig hcub)
    have HT := Lib.hid (fun u (hu : Below w.heap.size w u) => l06Group_f a n c o (gN n o) 0 u (h.below hu (Nat.le_refl _)) (ordB_t hb).2 (g5 (by omega)) (by omega) (by omega) (by omega))
    have HGt := Lib.hid (show grpF o n (gN n o) = grT n o from rfl)
    rw [HGt.out] at HT
    clear hc hcd h hb hcub g5 g1 g2 HGt
    generalize grT n o = F at *
    generalize gN n o = N at *
    go_enter Try.func21, Try.ntmps21
    go_wp2_with fail
    rw [← HWe.out]
    refine (HC.out _ HW0.out).mono ?_
    rintro e w1 ⟨rfl, rfl⟩
    go_wp2_with fail
    refine (HT.out _ HW0.out).mono ?_
    rintro e w2 ⟨g, cg, rfl, hcu, hb2⟩
    have HCu := Lib.hid hcu
    have HB2 := Lib.hid (HW0.out.trans (hb2.mono HW0.out.size))
    have hr := RowB.below KR.out hb2 (by rw [HWs.out]; omega)
    obtain ⟨e1, e2, e3⟩ := res_cells hr (.slice (some ⟨g, 0, none⟩) N cg)
    clear hcu hb2 hr
    go_wp2_with fail
    refine bodyPost_ret (v := .tuple #[.agg #[.slice (some ⟨g, 0, none⟩) N cg], .int .i64 0]) (by simp [results, Try.results21, go_sem, e3]) rfl ?_
    exact ringRes_put (Nat.le_refl _) (by rw [HWs.out]; omega) HCu.out (Nat.le_refl _) HB2.out HF.out.2 HF.out.1 _
end Go.Proofs.Ytfiilhoojoaflaa
