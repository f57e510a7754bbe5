/- The first fault in the specification. -/
import Derived.Test.YtmdmojklagmmiaaRgF
import Derived.Test.YtmdmojklagmmiaaRgG
import Derived.Test.YtmdmojklagmmiaaAcc
namespace Go.Proofs.Ytmdmojklagmmiaa
open Go.RowKit
set_option linter.unusedSimpArgs false
/-- the sums up to m -/
theorem s1_bd {n : Nat} {f : Nat → Nat → Nat → Int} (hf : ∀ i j k, i < n → j < n → k < n → 0 ≤ f i j k ∧ f i j k ≤ 1000) (hn : n ≤ 16) {i j k l m : Nat} (hi : i < n) (hj : j < n) (hk : k < n) (hl : l < n) (hm : m ≤ n) : 0 ≤ sumZ (fun m => f i j m * f m k l) m ∧ sumZ (fun m => f i j m * f m k l) m ≤ 16000000 := by
  have h1 := sumZ_bd (g := fun m => f i j m * f m k l) (n := m) (B := 1000000) (fun q hq => mul_bd (hf i j q hi hj (by omega)) (hf q k l (by omega) hk hl))
  omega
theorem s2_bd {n : Nat} {f : Nat → Nat → Nat → Int} (hf : ∀ i j k, i < n → j < n → k < n → 0 ≤ f i j k ∧ f i j k ≤ 1000) (hn : n ≤ 16) {i j k l m : Nat} (hi : i < n) (hj : j < n) (hk : k < n) (hl : l < n) (hm : m ≤ n) : 0 ≤ sumZ (fun m => f j k m * f i m l) m ∧ sumZ (fun m => f j k m * f i m l) m ≤ 16000000 := by
  have h1 := sumZ_bd (g := fun m => f j k m * f i m l) (n := m) (B := 1000000) (fun q hq => mul_bd (hf j k q hj hk (by omega)) (hf i q l hi (by omega) hl))
  omega
set_option maxHeartbeats 16000000 in
set_option maxRecDepth 100000 in
theorem l03Fault_f (b off n c : Nat) (B O C : Nat → Nat) (B2 O2 C2 : Nat → Nat → Nat) (f : Nat → Nat → Nat → Int) (w : World) (h : CubeAt w b off n B O C B2 O2 C2 f) (h0 : 0 < n) (hn : n ≤ 16) (hf : ∀ i j k, i < n → j < n → k < n → 0 ≤ f i j k ∧ f i j k ≤ 1000) :
    Calls Try.prog 52 #[.slice (some ⟨b, off, none⟩) n c] w (FltRes w (flt n f)) := by
  have H := Lib.hid h
  have HF := Lib.hid hf
  clear h hf
  go_enter Try.func52, Try.ntmps52
  go_wp2_with fail
  go_loop [4] (fun x => ∃ i : Nat, i ≤ n ∧ x = .int .i64 i ∧ ∀ i', i' < i → ∀ k', k' < n → ub f i' k' = false) (fun x => n - (intOf x).toNat)
  case atStart => exact ⟨0, by omega, rfl, fun i hi => absurd hi (by omega)⟩
  case round =>
    obtain ⟨i, hi, rfl, hall⟩ := hrel
    have HA := Lib.hid hall
    clear hall
    by_cases hin : i < n
    · go_wp2_with fail
      go_loop [5] (fun x => ∃ k : Nat, k ≤ n ∧ x = .int .i64 k ∧ ∀ k', k' < k → ub f i k' = false) (fun x => n - (intOf x).toNat)
      case atStart => exact ⟨0, by omega, rfl, fun i hi => absurd hi (by omega)⟩
      case round =>
        obtain ⟨k, hk, rfl, hall3⟩ := hrel
        have HA3 := Lib.hid hall3
        clear hall3
        by_cases hkn : k < n
        · have e1 : w.cell? ⟨b, off, none⟩ = some (.slice (some ⟨B 0, O 0, none⟩) n (C 0)) := by simpa using (H.out.row 0 h0).1
          have e2 := (H.out.col 0 i h0 hin).1
          have e3 := H.out.num 0 i k h0 hin hkn
          have e4 := (H.out.row i hin).1
          have e5 : w.cell? ⟨B i, O i, none⟩ = some (.slice (some ⟨B2 i 0, O2 i 0, none⟩) n (C2 i 0)) := by simpa using (H.out.col i 0 hin h0).1
          have e6 := H.out.num i 0 k hin h0 hkn
          obtain ⟨x, hx⟩ : ∃ x, x = f 0 i k := ⟨_, rfl⟩
          obtain ⟨y, hy⟩ : ∃ x, x = f i 0 k := ⟨_, rfl⟩
          rw [← hx] at e3
          rw [← hy] at e6
          have HX := Lib.hid hx
          have HY := Lib.hid hy
          clear hx hy
          generalize B 0 = b1 at *
          generalize O 0 = o1 at *
          generalize C 0 = c1 at *
          generalize B2 0 i = b2 at *
          generalize O2 0 i = o2 at *
          generalize C2 0 i = c2 at *
          generalize B i = b3 at *
          generalize O i = o3 at *
          generalize C i = c3 at *
          generalize B2 i 0 = b4 at *
          generalize O2 i 0 = o4 at *
          generalize C2 i 0 = c4 at *
          by_cases ik : i = k
          · have hik : ((i : Int) == (k : Int)) = true := by simp; omega
            have HU := Lib.hid (show ub f i k = ((x != 1) || (y != 1)) by unfold ub; rw [if_pos ik, HX.out, HY.out])
            clear ik
            cases hp : (x != 1)
            · cases hq : (y != 1)
              · have HN := Lib.hid (show ∀ k', k' < k + 1 → ub f i k' = false from fun k' hk' => by
                    by_cases e : k' = k
                    · rw [e, HU.out, hp, hq]; rfl
                    · exact HA3.out k' (by omega))
                go_wp2_with fail
                exact ⟨⟨k + 1, by omega, by go_num, HN.out⟩, by simp [intOf]; omega⟩
              · skip
                have HR := Lib.hid (fltU_hit hin hkn (by rw [HU.out, hp, hq]; rfl) HA3.out HA.out)
                have HQ := Lib.hid (flt_U (n := n) (f := f) (by rw [HR.out]; simp))
                go_wp2_with fail
                go_ret
                rw [HQ.out, HR.out]
                exact fltRes_lit (l := [0, (i : Int), (k : Int)]) (by simp) (Below.refl _ _)
            · skip
              have HR := Lib.hid (fltU_hit hin hkn (by rw [HU.out, hp]; exact Bool.true_or _) HA3.out HA.out)
              have HQ := Lib.hid (flt_U (n := n) (f := f) (by rw [HR.out]; simp))
              go_wp2_with fail
              go_ret
              rw [HQ.out, HR.out]
              exact fltRes_lit (l := [0, (i : Int), (k : Int)]) (by simp) (Below.refl _ _)
          · have hik : ((i : Int) == (k : Int)) = false := by simp; omega
            have HU := Lib.hid (show ub f i k = ((x != 0) || (y != 0)) by unfold ub; rw [if_neg ik, HX.out, HY.out])
            clear ik
            cases hp : (x != 0)
            · cases hq : (y != 0)
              · have HN := Lib.hid (show ∀ k', k' < k + 1 → ub f i k' = false from fun k' hk' => by
                    by_cases e : k' = k
                    · rw [e, HU.out, hp, hq]; rfl
                    · exact HA3.out k' (by omega))
                go_wp2_with fail
                exact ⟨⟨k + 1, by omega, by go_num, HN.out⟩, by simp [intOf]; omega⟩
              · skip
                have HR := Lib.hid (fltU_hit hin hkn (by rw [HU.out, hp, hq]; rfl) HA3.out HA.out)
                have HQ := Lib.hid (flt_U (n := n) (f := f) (by rw [HR.out]; simp))
                go_wp2_with fail
                go_ret
                rw [HQ.out, HR.out]
                exact fltRes_lit (l := [0, (i : Int), (k : Int)]) (by simp) (Below.refl _ _)
            · skip
              have HR := Lib.hid (fltU_hit hin hkn (by rw [HU.out, hp]; exact Bool.true_or _) HA3.out HA.out)
              have HQ := Lib.hid (flt_U (n := n) (f := f) (by rw [HR.out]; simp))
              go_wp2_with fail
              go_ret
              rw [HQ.out, HR.out]
              exact fltRes_lit (l := [0, (i : Int), (k : Int)]) (by simp) (Below.refl _ _)
        · obtain rfl : k = n := by omega
          have HN := Lib.hid (show ∀ i', i' < i + 1 → ∀ k', k' < k → ub f i' k' = false from fun i' hi' => by
            by_cases e : i' = i
            · rw [e]; exact HA3.out
            · exact HA.out i' (by omega))
          go_wp2_with fail
          exact ⟨⟨i + 1, by omega, by go_num, HN.out⟩, by simp [intOf]; omega⟩
    · obtain rfl : i = n := by omega
      have HU0 := Lib.hid (fltU_none HA.out)
      clear HA
      go_wp2_with fail
      go_loopw [7, 8] (fun v x wr => ∃ (q g cg : Nat), q ≤ i ∧ x = .int .i64 q ∧ v = .slice (some ⟨g, 0, none⟩) q cg ∧ Acc w wr 2 (.slice (some ⟨g, 0, none⟩) q cg) q (fun j => dualOf i f j)) (fun _ x _ => i - (intOf x).toNat)
      case atStart => exact ⟨0, _, _, by omega, rfl, rfl, Acc.start _ _ _⟩
      case round =>
        obtain ⟨q, g, cg, hq, rfl, rfl, hacc⟩ := hrel
        have HA := Lib.hid hacc
        clear hacc
        by_cases hqn : q < i
        · have HD := Lib.hid (l03Dual_f b off i c B O C B2 O2 C2 f q wr (H.out.below HA.out.bel) (by omega) hqn)
          have hsz := HA.out.bel.size
          go_wp2_with fail
          refine HD.out.mono ?_
          rintro e w1 ⟨rfl, rfl⟩
          go_wp2_with (at_builtin; refine push64 _ rfl _ _ rfl w.heap.size _ q _ rfl (HA.out.own.alloc _) ⟨_, 0, none⟩ (dualOf i f q) rfl (cell_one_new _ _ _) (by omega) (by simp; omega) ?_; intro g3 c3 w3 hown3 hgr3)
          have HP := Lib.hid (HA.out.push _ rfl hown3 hgr3)
          clear hown3 hgr3
          go_roundw
          case rel => exact ⟨q + 1, g3, c3, by omega, by go_num, rfl, HP.out⟩
          case measure => simp [intOf]; omega
        · obtain rfl : q = i := by omega
          obtain ⟨hg, hcg1, hcg2, hrow⟩ := HA.out.done
          have HB := Lib.hid HA.out.bel
          have HR := Lib.hid hrow
          have HG := Lib.hid hg
          have HC := Lib.hid (H.out.below HA.out.bel)
          clear HA hrow hg H
          obtain ⟨wv, hwv⟩ : ∃ x, x = wr := ⟨_, rfl⟩
          subst hwv
          obtain ⟨n, hnq⟩ : ∃ n, n = q := ⟨_, rfl⟩
          subst hnq
          go_wp2_with fail
          go_loop [9] (fun x => ∃ i : Nat, i ≤ n ∧ x = .int .i64 i ∧ ∀ i', i' < i → db n f i' = false) (fun x => n - (intOf x).toNat)
          case atStart => exact ⟨0, by omega, rfl, fun i hi => absurd hi (by omega)⟩
          case round =>
            obtain ⟨i, hi, rfl, hall⟩ := hrel
            have HA := Lib.hid hall
            clear hall
            by_cases hin : i < n
            · have e1 : wv.cell? ⟨g, i, none⟩ = some (.int .i64 (dualOf n f i)) := RowB.cell (show RowB wv 2 g n _ from HR.out) hin
              obtain ⟨d, hd⟩ : ∃ d, d = dualOf n f i := ⟨_, rfl⟩
              rw [← hd] at e1
              have HD := Lib.hid hd
              have hrg := dual_range n f i
              rw [← hd] at hrg
              clear hd
              by_cases hneg : d < 0
              · have hdn : decide (d < 0) = true := by simp; omega
                have HR1 := Lib.hid (fltD_hit hin (show db n f i = true by unfold db; rw [← HD.out, hdn]; rfl) HA.out)
                have HQ := Lib.hid (flt_D HU0.out (by rw [HR1.out]; simp))
                go_wp2_with fail
                go_ret
                rw [HQ.out, HR1.out]
                exact fltRes_lit (l := [1, (i : Int)]) (by simp) HB.out
              · have hdn : decide (d < 0) = false := by simp; omega
                obtain ⟨q, rfl⟩ : ∃ q : Nat, d = q := ⟨d.toNat, by omega⟩
                have hqn : q < n := by omega
                have e2 : wv.cell? ⟨g, q, none⟩ = some (.int .i64 (dualOf n f q)) := RowB.cell (show RowB wv 2 g n _ from HR.out) hqn
                have HU := Lib.hid (show db n f i = (dualOf n f q != (i : Int)) by
                  unfold db dn; rw [← HD.out, hdn]; simp)
                obtain ⟨d2, hd2⟩ : ∃ d, d = dualOf n f q := ⟨_, rfl⟩
                rw [← hd2] at e2 HU
                clear hd2 hneg
                cases hp : (d2 != (i : Int))
                · have HN := Lib.hid (show ∀ i', i' < i + 1 → db n f i' = false from fun i' hi' => by
                    by_cases e : i' = i
                    · rw [e, HU.out, hp]
                    · exact HA.out i' (by omega))
                  go_wp2_with fail
                  exact ⟨⟨i + 1, by omega, by go_num, HN.out⟩, by simp [intOf]; omega⟩
                · have HR1 := Lib.hid (fltD_hit hin (show db n f i = true by rw [HU.out, hp]) HA.out)
                  have HQ := Lib.hid (flt_D HU0.out (by rw [HR1.out]; simp))
                  go_wp2_with fail
                  go_ret
                  rw [HQ.out, HR1.out]
                  exact fltRes_lit (l := [1, (i : Int)]) (by simp) HB.out
            · obtain rfl : i = n := by omega
              have HD0 := Lib.hid (fltD_none HA.out)
              have HDN := Lib.hid (db_nonneg HD0.out)
              clear HA
              go_wp2_with fail
              obtain ⟨n, hnq⟩ : ∃ n, n = i := ⟨_, rfl⟩
              subst hnq
              go_loopw [10] (fun x wr => ∃ i : Nat, i ≤ n ∧ x = .int .i64 i ∧ Drawn wv wr ∧ ∀ i', i' < i → ∀ j', j' < n → ∀ k', k' < n → tb n f i' j' k' = false) (fun x _ => n - (intOf x).toNat)
              case atStart => exact ⟨0, by omega, rfl, Drawn.refl _, fun i hi => absurd hi (by omega)⟩
              case round =>
                obtain ⟨i, hi, rfl, hdr, hall⟩ := hrel
                have HA := Lib.hid hall
                have HDr := Lib.hid hdr
                clear hall hdr
                by_cases hin : i < n
                · go_wp2_with fail
                  go_loopw [11] (fun x wr => ∃ j : Nat, j ≤ n ∧ x = .int .i64 j ∧ Drawn wv wr ∧ ∀ j', j' < j → ∀ k', k' < n → tb n f i j' k' = false) (fun x _ => n - (intOf x).toNat)
                  case atStart => exact ⟨0, by omega, rfl, HDr.out, fun i hi => absurd hi (by omega)⟩
                  case round =>
                    obtain ⟨j, hj, rfl, hdr, hall⟩ := hrel
                    have HA4 := Lib.hid hall
                    have HDr4 := Lib.hid hdr
                    clear hall hdr HDr
                    by_cases hjn : j < n
                    · go_wp2_with fail
                      go_loopw [12] (fun x wr => ∃ k : Nat, k ≤ n ∧ x = .int .i64 k ∧ Drawn wv wr ∧ ∀ k', k' < k → tb n f i j k' = false) (fun x _ => n - (intOf x).toNat)
                      case atStart => exact ⟨0, by omega, rfl, HDr4.out, fun i hi => absurd hi (by omega)⟩
                      case round =>
                        obtain ⟨k, hk, rfl, hdr, hall⟩ := hrel
                        have HA5 := Lib.hid hall
                        have HDr5 := Lib.hid hdr
                        clear hall hdr HDr4
                        by_cases hkn : k < n
                        · obtain ⟨di, hdi⟩ : ∃ x, x = dn n f i := ⟨_, rfl⟩
                          obtain ⟨dj, hdj⟩ : ∃ x, x = dn n f j := ⟨_, rfl⟩
                          have hi1 := dn_lt (HDN.out i hin)
                          have hj1 := dn_lt (HDN.out j hjn)
                          rw [← hdi] at hi1
                          rw [← hdj] at hj1
                          obtain ⟨hdin, hdie⟩ := hi1
                          obtain ⟨hdjn, hdje⟩ := hj1
                          have e1 : wr.cell? ⟨g, i, none⟩ = some (.int .i64 (di : Nat)) := by
                            rw [← hdie, HDr5.out.cell]; exact RowB.cell (show RowB wv 2 g n _ from HR.out) hin
                          have e2 : wr.cell? ⟨g, j, none⟩ = some (.int .i64 (dj : Nat)) := by
                            rw [← hdje, HDr5.out.cell]; exact RowB.cell (show RowB wv 2 g n _ from HR.out) hjn
                          have e3 := (HDr5.out.cell _).trans (HC.out.num i j k hin hjn hkn)
                          have e3a := (HDr5.out.cell _).trans (HC.out.row i hin).1
                          have e3b := (HDr5.out.cell _).trans (HC.out.col i j hin hjn).1
                          have e4 := (HDr5.out.cell _).trans (HC.out.row di hdin).1
                          have e5 := (HDr5.out.cell _).trans (HC.out.col di k hdin hkn).1
                          have e6 := (HDr5.out.cell _).trans (HC.out.num di k j hdin hkn hjn)
                          have e7 := (HDr5.out.cell _).trans (HC.out.row k hkn).1
                          have e8 := (HDr5.out.cell _).trans (HC.out.col k dj hkn hdjn).1
                          have e9 := (HDr5.out.cell _).trans (HC.out.num k dj i hkn hdjn hin)
                          have HU := Lib.hid (show tb n f i j k = ((f i j k != f di k j) || (f i j k != f k dj i)) by unfold tb; rw [hdi, hdj])
                          clear hdi hdj hdie hdje
                          generalize f i j k = x at *
                          generalize f di k j = y at *
                          generalize f k dj i = z at *
                          generalize B i = b1 at *
                          generalize O i = o1 at *
                          generalize C i = c1 at *
                          generalize B2 i j = b2 at *
                          generalize O2 i j = o2 at *
                          generalize C2 i j = c2 at *
                          generalize B di = b3 at *
                          generalize O di = o3 at *
                          generalize C di = c3 at *
                          generalize B2 di k = b4 at *
                          generalize O2 di k = o4 at *
                          generalize C2 di k = c4 at *
                          generalize B k = b5 at *
                          generalize O k = o5 at *
                          generalize C k = c5 at *
                          generalize B2 k dj = b6 at *
                          generalize O2 k dj = o6 at *
                          generalize C2 k dj = c6 at *
                          cases hp : (x != y)
                          · cases hq2 : (x != z)
                            · have HN := Lib.hid (show ∀ k', k' < k + 1 → tb n f i j k' = false from fun k' hk' => by
                                by_cases e : k' = k
                                · rw [e, HU.out, hp, hq2]; rfl
                                · exact HA5.out k' (by omega))
                              go_wp2_with fail
                              go_quiet (fail)
                              go_wp2_with fail
                              exact ⟨⟨k + 1, by omega, by go_num, HDr5.out.more _, HN.out⟩, by simp [intOf]; omega⟩
                            · have HR1 := Lib.hid (fltT_hit hin hjn hkn (by rw [HU.out, hp, hq2]; rfl) HA5.out HA4.out HA.out)
                              have HQ := Lib.hid (flt_T HU0.out HD0.out (by rw [HR1.out]; simp))
                              have HT5 := Lib.hid (HB.out.trans ((HDr5.out.below (B := wv.heap.size)).mono HB.out.size))
                              go_wp2_with fail
                              go_quiet (fail)
                              go_wp2_with fail
                              go_ret
                              rw [HQ.out, HR1.out]
                              exact fltRes_lit (l := [2, (i : Int), (j : Int), (k : Int)]) (by simp) (below_drewN HT5.out _)
                          · have HR1 := Lib.hid (fltT_hit hin hjn hkn (by rw [HU.out, hp]; exact Bool.true_or _) HA5.out HA4.out HA.out)
                            have HQ := Lib.hid (flt_T HU0.out HD0.out (by rw [HR1.out]; simp))
                            have HT5 := Lib.hid (HB.out.trans ((HDr5.out.below (B := wv.heap.size)).mono HB.out.size))
                            go_wp2_with fail
                            go_quiet (fail)
                            go_wp2_with fail
                            go_ret
                            rw [HQ.out, HR1.out]
                            exact fltRes_lit (l := [2, (i : Int), (j : Int), (k : Int)]) (by simp) (below_drewN HT5.out _)
                        · obtain rfl : k = n := by omega
                          have HN := Lib.hid (show ∀ j', j' < j + 1 → ∀ k', k' < k → tb k f i j' k' = false from fun j' hj' => by
                            by_cases e : j' = j
                            · rw [e]; exact HA5.out
                            · exact HA4.out j' (by omega))
                          go_wp2_with fail
                          exact ⟨⟨j + 1, by omega, by go_num, HDr5.out, HN.out⟩, by simp [intOf]; omega⟩
                    · obtain rfl : j = n := by omega
                      have HN := Lib.hid (show ∀ i', i' < i + 1 → ∀ j', j' < j → ∀ k', k' < j → tb j f i' j' k' = false from fun i' hi' => by
                        by_cases e : i' = i
                        · rw [e]; exact HA4.out
                        · exact HA.out i' (by omega))
                      go_wp2_with fail
                      exact ⟨⟨i + 1, by omega, by go_num, HDr4.out, HN.out⟩, by simp [intOf]; omega⟩
                · obtain rfl : i = n := by omega
                  have HT0 := Lib.hid (fltT_none HA.out)
                  have HBz := Lib.hid (HB.out.trans ((HDr.out.below (B := wv.heap.size)).mono HB.out.size))
                  have HCz := Lib.hid (HC.out.below (HDr.out.below (B := wv.heap.size)))
                  clear HA HC HB HR HDN
                  go_wp2_with fail
                  obtain ⟨n, hnq⟩ : ∃ n, n = i := ⟨_, rfl⟩
                  subst hnq
                  obtain ⟨wz, hwz⟩ : ∃ x, x = wr := ⟨_, rfl⟩
                  subst hwz
                  go_loopw [13] (fun x wr => ∃ i : Nat, i ≤ n ∧ Drawn wz wr ∧ x = .int .i64 i ∧ ∀ i', i' < i → ∀ j', j' < n → ∀ k', k' < n → ∀ l', l' < n → sb n f i' j' k' l' = false) (fun x _ => n - (intOf x).toNat)
                  case atStart => exact ⟨0, by omega, Drawn.refl _, rfl, fun i hi => absurd hi (by omega)⟩
                  case round =>
                    obtain ⟨i, hi, hdr, rfl, hall⟩ := hrel
                    have HD1 := Lib.hid hdr
                    clear hdr
                    have HA := Lib.hid hall
                    clear hall
                    by_cases hin : i < n
                    · go_wp2_with fail
                      go_loopw [14] (fun x wr => ∃ j : Nat, j ≤ n ∧ Drawn wz wr ∧ x = .int .i64 j ∧ ∀ j', j' < j → ∀ k', k' < n → ∀ l', l' < n → sb n f i j' k' l' = false) (fun x _ => n - (intOf x).toNat)
                      case atStart => exact ⟨0, by omega, HD1.out, rfl, fun i hi => absurd hi (by omega)⟩
                      case round =>
                        obtain ⟨j, hj, hdr, rfl, hall⟩ := hrel
                        have HD2 := Lib.hid hdr
                        clear hdr
                        have HA2 := Lib.hid hall
                        clear hall
                        by_cases hjn : j < n
                        · go_wp2_with fail
                          go_loopw [15] (fun x wr => ∃ k : Nat, k ≤ n ∧ Drawn wz wr ∧ x = .int .i64 k ∧ ∀ k', k' < k → ∀ l', l' < n → sb n f i j k' l' = false) (fun x _ => n - (intOf x).toNat)
                          case atStart => exact ⟨0, by omega, HD2.out, rfl, fun i hi => absurd hi (by omega)⟩
                          case round =>
                            obtain ⟨k, hk, hdr, rfl, hall⟩ := hrel
                            have HD3 := Lib.hid hdr
                            clear hdr
                            have HA3 := Lib.hid hall
                            clear hall
                            by_cases hkn : k < n
                            · go_wp2_with fail
                              go_loopw [16] (fun x wr => ∃ l : Nat, l ≤ n ∧ Drawn wz wr ∧ x = .int .i64 l ∧ ∀ l', l' < l → sb n f i j k l' = false) (fun x _ => n - (intOf x).toNat)
                              case atStart => exact ⟨0, by omega, HD3.out, rfl, fun i hi => absurd hi (by omega)⟩
                              case round =>
                                obtain ⟨l, hl, hdr, rfl, hall⟩ := hrel
                                have HD4 := Lib.hid hdr
                                clear hdr
                                have HA4 := Lib.hid hall
                                clear hall
                                by_cases hln : l < n
                                · go_wp2_with fail
                                  go_loopw [17, 18, 19] (fun u v x wr => ∃ m : Nat, m ≤ n ∧ Drawn wz wr ∧ x = .int .i64 m ∧ u = .int .i64 (sumZ (fun m => f i j m * f m k l) m) ∧ v = .int .i64 (sumZ (fun m => f j k m * f i m l) m)) (fun _ _ x _ => n - (intOf x).toNat)
                                  case atStart => exact ⟨0, by omega, HD4.out, rfl, rfl, rfl⟩
                                  case round =>
                                    obtain ⟨m, hm, hdr, rfl, rfl, rfl⟩ := hrel
                                    have HD5 := Lib.hid hdr
                                    clear hdr
                                    have hb1 := s1_bd HF.out hn hin hjn hkn hln hm
                                    have hb2 := s2_bd HF.out hn hin hjn hkn hln hm
                                    by_cases hmn : m < n
                                    · have e1 := (HD5.out.cell _).trans (HCz.out.row i hin).1
                                      have e2 := (HD5.out.cell _).trans (HCz.out.col i j hin hjn).1
                                      have e3 := (HD5.out.cell _).trans (HCz.out.num i j m hin hjn hmn)
                                      have e4 := (HD5.out.cell _).trans (HCz.out.row m hmn).1
                                      have e5 := (HD5.out.cell _).trans (HCz.out.col m k hmn hkn).1
                                      have e6 := (HD5.out.cell _).trans (HCz.out.num m k l hmn hkn hln)
                                      have e7 := (HD5.out.cell _).trans (HCz.out.row j hjn).1
                                      have e8 := (HD5.out.cell _).trans (HCz.out.col j k hjn hkn).1
                                      have e9 := (HD5.out.cell _).trans (HCz.out.num j k m hjn hkn hmn)
                                      have e10 := (HD5.out.cell _).trans (HCz.out.col i m hin hmn).1
                                      have e11 := (HD5.out.cell _).trans (HCz.out.num i m l hin hmn hln)
                                      have q1 := mul_bd (HF.out i j m hin hjn hmn) (HF.out m k l hmn hkn hln)
                                      have q2 := mul_bd (HF.out j k m hjn hkn hmn) (HF.out i m l hin hmn hln)
                                      have HS1 := Lib.hid (show sumZ (fun m => f i j m * f m k l) (m + 1) = sumZ (fun m => f i j m * f m k l) m + f i j m * f m k l from rfl)
                                      have HS2 := Lib.hid (show sumZ (fun m => f j k m * f i m l) (m + 1) = sumZ (fun m => f j k m * f i m l) m + f j k m * f i m l from rfl)
                                      generalize sumZ (fun m => f i j m * f m k l) m = S at *
                                      generalize sumZ (fun m => f j k m * f i m l) m = T at *
                                      generalize f i j m = x1 at *
                                      generalize f m k l = x2 at *
                                      generalize f j k m = x3 at *
                                      generalize f i m l = x4 at *
                                      have w1 : IntKind.i64.wrap (x1 * x2) = x1 * x2 := IntWalk.i64_in _ (by omega)
                                      have w2 : IntKind.i64.wrap (S + x1 * x2) = S + x1 * x2 := IntWalk.i64_in _ (by omega)
                                      have w3 : IntKind.i64.wrap (x3 * x4) = x3 * x4 := IntWalk.i64_in _ (by omega)
                                      have w4 : IntKind.i64.wrap (T + x3 * x4) = T + x3 * x4 := IntWalk.i64_in _ (by omega)
                                      clear hb1 hb2 q1 q2
                                      generalize B i = b1 at *
                                      generalize O i = o1 at *
                                      generalize C i = c1 at *
                                      generalize B2 i j = b2 at *
                                      generalize O2 i j = o2 at *
                                      generalize C2 i j = c2 at *
                                      generalize B m = b3 at *
                                      generalize O m = o3 at *
                                      generalize C m = c3 at *
                                      generalize B2 m k = b4 at *
                                      generalize O2 m k = o4 at *
                                      generalize C2 m k = c4 at *
                                      generalize B j = b5 at *
                                      generalize O j = o5 at *
                                      generalize C j = c5 at *
                                      generalize B2 j k = b6 at *
                                      generalize O2 j k = o6 at *
                                      generalize C2 j k = c6 at *
                                      generalize B2 i m = b7 at *
                                      generalize O2 i m = o7 at *
                                      generalize C2 i m = c7 at *
                                      go_wp2_with fail
                                      go_quiet (fail)
                                      go_wp2_with fail
                                      go_quiet (fail)
                                      go_wp2_with fail
                                      exact ⟨⟨m + 1, by omega, HD5.out.more _, by go_num, by rw [HS1.out], by rw [HS2.out]⟩, by simp [intOf]; omega⟩
                                    · obtain rfl : m = n := by omega
                                      have HU := Lib.hid (show sb m f i j k l = (sumZ (fun m => f i j m * f m k l) m != sumZ (fun m => f j k m * f i m l) m) from rfl)
                                      generalize sumZ (fun m => f i j m * f m k l) m = S at *
                                      generalize sumZ (fun m => f j k m * f i m l) m = T at *
                                      clear hb1 hb2
                                      cases hp : (S != T)
                                      · have HN := Lib.hid (show ∀ l', l' < l + 1 → sb m f i j k l' = false from fun l' hl' => by
                                          by_cases e : l' = l
                                          · rw [e, HU.out, hp]
                                          · exact HA4.out l' (by omega))
                                        go_wp2_with fail
                                        exact ⟨⟨l + 1, by omega, HD5.out, by go_num, HN.out⟩, by simp [intOf]; omega⟩
                                      · have HR1 := Lib.hid (fltS_hit hin hjn hkn hln (by rw [HU.out, hp]) HA4.out HA3.out HA2.out HA.out)
                                        have HQ := Lib.hid (flt_S HU0.out HD0.out HT0.out)
                                        go_wp2_with fail
                                        go_ret
                                        rw [HQ.out, HR1.out]
                                        exact fltRes_lit (l := [3, (i : Int), (j : Int), (k : Int), (l : Int)]) (by simp) (HBz.out.trans ((HD5.out.below (B := wz.heap.size)).mono HBz.out.size))
                                · obtain rfl : l = n := by omega
                                  have HN := Lib.hid (show ∀ k', k' < k + 1 → ∀ l', l' < l → sb l f i j k' l' = false from fun k' hk' => by
                                    by_cases e : k' = k
                                    · rw [e]; exact HA4.out
                                    · exact HA3.out k' (by omega))
                                  go_wp2_with fail
                                  exact ⟨⟨k + 1, by omega, HD4.out, by go_num, HN.out⟩, by simp [intOf]; omega⟩
                            · obtain rfl : k = n := by omega
                              have HN := Lib.hid (show ∀ j', j' < j + 1 → ∀ k', k' < k → ∀ l', l' < k → sb k f i j' k' l' = false from fun j' hj' => by
                                by_cases e : j' = j
                                · rw [e]; exact HA3.out
                                · exact HA2.out j' (by omega))
                              go_wp2_with fail
                              exact ⟨⟨j + 1, by omega, HD3.out, by go_num, HN.out⟩, by simp [intOf]; omega⟩
                        · obtain rfl : j = n := by omega
                          have HN := Lib.hid (show ∀ i', i' < i + 1 → ∀ j', j' < j → ∀ k', k' < j → ∀ l', l' < j → sb j f i' j' k' l' = false from fun i' hi' => by
                            by_cases e : i' = i
                            · rw [e]; exact HA2.out
                            · exact HA.out i' (by omega))
                          go_wp2_with fail
                          exact ⟨⟨i + 1, by omega, HD2.out, by go_num, HN.out⟩, by simp [intOf]; omega⟩
                    · obtain rfl : i = n := by omega
                      have HR1 := Lib.hid (show flt i f = [] by rw [flt_S HU0.out HD0.out HT0.out]; exact fltS_none HA.out)
                      go_wp2_with fail
                      go_ret
                      exact fltRes_none HR1.out (HBz.out.trans ((HD1.out.below (B := wz.heap.size)).mono HBz.out.size))
/-- l03Is of a ring -/
theorem l03Is_f (a : Option Addr) (n c : Nat) (M : Nat → Nat) (L : Nat → Nat → Nat) (f : Nat → Nat → Nat → Int) (w : World) (h : RdT w a n M L f) (hn : n ≤ 1048576) (hM : ∀ i, i < n → M i ≤ 1048576) (hL : ∀ i, i < n → ∀ j, j < M i → L i j ≤ 1048576) :
    Calls Try.prog 30 #[.agg #[.slice a n c]] w (BoolRes w (ringB n M L f)) := by
  have HI := Lib.hid (fun u (hu : Below w.heap.size w u) => l03Cube_f a n c M L f u (h.below hu (Nat.le_refl _)) (by omega) (fun i hi => Nat.le_trans (hM i hi) (by omega)) (fun i hi j hj => Nat.le_trans (hL i hi j hj) (by omega)))
  clear hM hL
  cases hc : cubB n M L f
  · rw [hc] at HI
    rw [ringB_no hc]
    clear h hc
    go_enter Try.func30, Try.ntmps30
    go_wp2_with fail
    refine (HI.out _ (below_alloc _ _)).mono ?_
    rintro e w1 ⟨rfl, rfl⟩
    go_wp2_with fail
    go_ret
    exact ⟨rfl, below_alloc _ _⟩
  · obtain ⟨h0, h16, hf⟩ := cub_num hc
    obtain ⟨b, off, B, O, C, B2, O2, C2, rfl, hat⟩ := cubeAt_of (cub_rd h hc) h0
    have HA := Lib.hid (fun u (hu : Below w.heap.size w u) => l03Fault_f b off n c B O C B2 O2 C2 f u (hat.below hu) h0 h16 hf)
    rw [hc] at HI
    rw [ringB_cub hc]
    clear h hc hat hf
    go_enter Try.func30, Try.ntmps30
    go_wp2_with fail
    refine (HI.out _ (below_alloc _ _)).mono ?_
    rintro e w1 ⟨rfl, rfl⟩
    go_wp2_with fail
    refine (HA.out _ (below_alloc _ _)).mono ?_
    intro e w3 hres
    rcases hres with ⟨hl, rfl, hb3⟩ | ⟨hl, g3, c3, rfl, hg3, hr3, hb3⟩
    · have HN := Lib.hid (show true = decide (flt n f = []) by rw [hl]; rfl)
      have HB3 := Lib.hid ((below_alloc w (.cells #[.slice (some ⟨b, off, none⟩) n c] 29)).trans (hb3.mono (by simp)))
      clear hl hb3
      go_wp2_with fail
      go_ret
      exact ⟨ret_bool HN.out, HB3.out⟩
    · have HN := Lib.hid (show false = decide (flt n f = []) from (decide_eq_false hl).symm)
      have HB3 := Lib.hid ((below_alloc w (.cells #[.slice (some ⟨b, off, none⟩) n c] 29)).trans (hb3.mono (by simp)))
      have hd : (((flt n f).length : Int) == 0) = false := by simp; exact hl
      clear hl hb3 hg3 hr3
      generalize (flt n f).length = ln at *
      go_wp2_with fail
      go_ret
      exact ⟨ret_bool HN.out, HB3.out⟩
end Go.Proofs.Ytmdmojklagmmiaa
