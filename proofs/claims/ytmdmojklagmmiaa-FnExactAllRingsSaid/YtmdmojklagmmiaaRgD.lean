/- The faults of turning and of sums: of the program; all faults. -/
import Derived.Test.YtmdmojklagmmiaaRgC
namespace Go.Proofs.Ytmdmojklagmmiaa
open Go.RowKit
set_option linter.unusedSimpArgs false
theorem db_nonneg {n : Nat} {f : Nat → Nat → Nat → Int} (h : fltD n f = []) : ∀ i, i < n → 0 ≤ dualOf n f i := by
  intro i hi
  by_cases e : 0 ≤ dualOf n f i
  · exact e
  · exfalso
    have h1 : db n f i = true := by unfold db; rw [decide_eq_true (by omega)]; rfl
    have := ff_lt hi h1
    unfold fltD at h
    rw [if_pos this] at h
    cases h
theorem dn_lt {n : Nat} {f : Nat → Nat → Nat → Int} {i : Nat} (h : 0 ≤ dualOf n f i) : dn n f i < n ∧ dualOf n f i = ((dn n f i : Nat) : Int) := by
  have := dual_range n f i
  unfold dn
  omega
theorem turnFault_f (b off n c : Nat) (B O C : Nat → Nat) (B2 O2 C2 : Nat → Nat → Nat) (f : Nat → Nat → Nat → Int) (w : World) (h : CubeAt w b off n B O C B2 O2 C2 f) (hn : n ≤ 1000) (hf : ∀ i j, i < n → j < n → 0 ≤ f i j 0) (hd : ∀ i, i < n → 0 ≤ dualOf n f i) :
    Calls Try.prog 95 #[.agg #[.slice (some ⟨b, off, none⟩) n c]] w (FltRes w (fltT n f)) := by
  have H := Lib.hid h
  have HF := Lib.hid hf
  have HDN := Lib.hid hd
  clear h hf hd
  go_enter Try.func95, Try.ntmps95
  go_wp2_with fail
  refine (duals_f b off n c B O C B2 O2 C2 f _ (H.out.below (below_alloc w _)) hn HF.out).mono ?_
  rintro e w1 ⟨g, rfl, hg, hr1, hb1⟩
  have HB1 := Lib.hid (show Below (w.heap.size + 1) (w.alloc (.cells #[.slice (some ⟨b, off, none⟩) n c] 29)) w1 by simpa using hb1)
  have HR1 := Lib.hid hr1
  have hs1 : w.heap.size < w1.heap.size := by have := HB1.out.size; simp at this; omega
  have e0' : w1.cell? ⟨w.heap.size, 0, none⟩ = some (.slice (some ⟨b, off, none⟩) n c) := by
    rw [HB1.out.cell (p := ⟨w.heap.size, 0, none⟩) (by simp)]; exact cell_box _ _ _
  have E0 := Lib.hid e0'
  have HT1 := Lib.hid (show Below w.heap.size w w1 from (below_alloc w _).trans (HB1.out.mono (by omega)))
  clear hb1 hr1 hg
  go_wp2_with fail
  refine (rank_f _ n c _).mono ?_
  rintro e w2 ⟨rfl, hb2⟩
  have HB2 := Lib.hid hb2
  clear hb2 e0'
  go_wp2_with fail
  go_loopw [12] (fun x wr => ∃ i : Nat, i ≤ n ∧ x = .int .i64 i ∧ Below w1.heap.size w1 wr ∧ ∀ i', i' < i → ∀ j', j' < n → ∀ k', k' < n → tb n f i' j' k' = false) (fun x _ => n - (intOf x).toNat)
  case atStart => exact ⟨0, by omega, rfl, HB2.out, fun i hi => absurd hi (by omega)⟩
  case round =>
    obtain ⟨i, hi, rfl, hbl, hall⟩ := hrel
    obtain ⟨wo, hwo⟩ : ∃ x, x = wr := ⟨_, rfl⟩
    subst hwo
    have HB := Lib.hid hbl
    have HA := Lib.hid hall
    clear hbl hall
    by_cases hin : i < n
    · have e0 : wo.cell? ⟨w.heap.size, 0, none⟩ = some (.slice (some ⟨b, off, none⟩) n c) := by
        rw [HB.out.cell (p := ⟨w.heap.size, 0, none⟩) hs1]; exact E0.out
      go_wp2_with fail
      refine (rank_f _ n c _).mono ?_
      rintro e w3 ⟨rfl, hb3⟩
      have HB3 := Lib.hid (HB.out.trans (hb3.mono HB.out.size))
      clear hb3 e0
      go_wp2_with fail
      go_loopw [17] (fun x wr => ∃ j : Nat, j ≤ n ∧ x = .int .i64 j ∧ Below w1.heap.size w1 wr ∧ ∀ j', j' < j → ∀ k', k' < n → tb n f i j' k' = false) (fun x _ => n - (intOf x).toNat)
      case atStart => exact ⟨0, by omega, rfl, HB3.out, fun i hi => absurd hi (by omega)⟩
      case round =>
        obtain ⟨j, hj, rfl, hbl, hall⟩ := hrel
        obtain ⟨wp, hwp⟩ : ∃ x, x = wr := ⟨_, rfl⟩
        subst hwp
        have HB4 := Lib.hid hbl
        have HA4 := Lib.hid hall
        clear hbl hall
        by_cases hjn : j < n
        · have e0 : wp.cell? ⟨w.heap.size, 0, none⟩ = some (.slice (some ⟨b, off, none⟩) n c) := by
            rw [HB4.out.cell (p := ⟨w.heap.size, 0, none⟩) hs1]; exact E0.out
          have HC := Lib.hid ((H.out.below HT1.out).below HB4.out)
          have e1 := (HC.out.row i hin).1
          have e2 := (HC.out.col i j hin hjn).1
          obtain ⟨b2, hb2⟩ : ∃ x, x = B2 i j := ⟨_, rfl⟩
          obtain ⟨o2, ho2⟩ : ∃ x, x = O2 i j := ⟨_, rfl⟩
          rw [← hb2, ← ho2] at e2
          have HQ1 := Lib.hid hb2
          have HQ2 := Lib.hid ho2
          clear hb2 ho2
          generalize B i = b1 at *
          generalize O i = o1 at *
          generalize C i = c1 at *
          generalize C2 i j = c2 at *
          go_wp2_with fail
          clear e0 e1 e2
          go_loopw [29] (fun x wr => ∃ k : Nat, k ≤ n ∧ x = .int .i64 k ∧ Below w1.heap.size w1 wr ∧ ∀ k', k' < k → tb n f i j k' = false) (fun x _ => n - (intOf x).toNat)
          case atStart => exact ⟨0, by omega, rfl, HB4.out, fun i hi => absurd hi (by omega)⟩
          case round =>
            obtain ⟨k, hk, rfl, hbl, hall⟩ := hrel
            have HB5 := Lib.hid hbl
            have HA5 := Lib.hid hall
            clear hbl hall
            by_cases hkn : k < n
            · have e0 : wr.cell? ⟨w.heap.size, 0, none⟩ = some (.slice (some ⟨b, off, none⟩) n c) := by
                rw [HB5.out.cell (p := ⟨w.heap.size, 0, none⟩) hs1]; exact E0.out
              have HC := Lib.hid ((H.out.below HT1.out).below HB5.out)
              obtain ⟨di, hdi⟩ : ∃ x, x = dn n f i := ⟨_, rfl⟩
              obtain ⟨dj, hdj⟩ : ∃ x, x = dn n f j := ⟨_, rfl⟩
              have hi1 := dn_lt (HDN.out i hin)
              have hj1 := dn_lt (HDN.out j hjn)
              rw [← hdi] at hi1
              rw [← hdj] at hj1
              obtain ⟨hdin, hdie⟩ := hi1
              obtain ⟨hdjn, hdje⟩ := hj1
              have e1 : wr.cell? ⟨g, i, none⟩ = some (.int .i64 (di : Nat)) := by
                rw [← hdie]; exact RowB.cell (show RowB wr 2 g n _ from RowB.below HR1.out HB5.out (RowB.lt HR1.out)) hin
              have e2 : wr.cell? ⟨g, j, none⟩ = some (.int .i64 (dj : Nat)) := by
                rw [← hdje]; exact RowB.cell (show RowB wr 2 g n _ from RowB.below HR1.out HB5.out (RowB.lt HR1.out)) hjn
              have e3 : wr.cell? ⟨b2, o2 + k, none⟩ = some (.int .i64 (f i j k)) := by rw [HQ1.out, HQ2.out]; exact HC.out.num i j k hin hjn hkn
              have e4 := (HC.out.row di hdin).1
              have e5 := (HC.out.col di k hdin hkn).1
              have e6 := HC.out.num di k j hdin hkn hjn
              have e7 := (HC.out.row k hkn).1
              have e8 := (HC.out.col k dj hkn hdjn).1
              have e9 := HC.out.num k dj i hkn hdjn hin
              have HU := Lib.hid (show tb n f i j k = ((f i j k != f di k j) || (f i j k != f k dj i)) by unfold tb; rw [hdi, hdj])
              clear hdi hdj hdie hdje
              generalize f i j k = x at *
              generalize f di k j = y at *
              generalize f k dj i = z at *
              generalize B di = b3 at *
              generalize O di = o3 at *
              generalize C di = c3 at *
              generalize B2 di k = b4 at *
              generalize O2 di k = o4 at *
              generalize C2 di k = c4 at *
              generalize B k = b5 at *
              generalize O k = o5 at *
              generalize C k = c5 at *
              generalize B2 k dj = b6 at *
              generalize O2 k dj = o6 at *
              generalize C2 k dj = c6 at *
              have HT5 := Lib.hid (show Below w.heap.size w wr from HT1.out.trans (HB5.out.mono (by omega)))
              cases hp : (x != y)
              · cases hq : (x != z)
                · have HN := Lib.hid (show ∀ k', k' < k + 1 → tb n f i j k' = false from fun k' hk' => by
                    by_cases e : k' = k
                    · rw [e, HU.out, hp, hq]; rfl
                    · exact HA5.out k' (by omega))
                  go_wp2_with fail
                  go_quiet (fail)
                  go_wp2_with fail
                  exact ⟨⟨k + 1, by omega, by go_num, below_drewN HB5.out _, HN.out⟩, by simp [intOf]; omega⟩
                · have HR := Lib.hid (fltT_hit hin hjn hkn (by rw [HU.out, hp, hq]; rfl) HA5.out HA4.out HA.out)
                  go_wp2_with fail
                  go_quiet (fail)
                  go_wp2_with fail
                  go_ret
                  rw [HR.out]
                  exact fltRes_lit (l := [2, (i : Int), (j : Int), (k : Int)]) (by simp) (below_drewN HT5.out _)
              · have HR := Lib.hid (fltT_hit hin hjn hkn (by rw [HU.out, hp]; exact Bool.true_or _) HA5.out HA4.out HA.out)
                go_wp2_with fail
                go_quiet (fail)
                go_wp2_with fail
                go_ret
                rw [HR.out]
                exact fltRes_lit (l := [2, (i : Int), (j : Int), (k : Int)]) (by simp) (below_drewN HT5.out _)
            · obtain rfl : k = n := by omega
              have HN := Lib.hid (show ∀ j', j' < j + 1 → ∀ k', k' < k → tb k f i j' k' = false from fun j' hj' => by
                by_cases e : j' = j
                · rw [e]; exact HA5.out
                · exact HA4.out j' (by omega))
              go_wp2_with fail
              exact ⟨⟨j + 1, by omega, by go_num, HB5.out, HN.out⟩, by simp [intOf]; omega⟩
        · obtain rfl : j = n := by omega
          have HN := Lib.hid (show ∀ i', i' < i + 1 → ∀ j', j' < j → ∀ k', k' < j → tb j f i' j' k' = false from fun i' hi' => by
            by_cases e : i' = i
            · rw [e]; exact HA4.out
            · exact HA.out i' (by omega))
          go_wp2_with fail
          exact ⟨⟨i + 1, by omega, by go_num, HB4.out, HN.out⟩, by simp [intOf]; omega⟩
    · obtain rfl : i = n := by omega
      have HR := Lib.hid (fltT_none HA.out)
      have HT := Lib.hid (show Below w.heap.size w wo from HT1.out.trans (HB.out.mono (by omega)))
      go_wp2_with fail
      go_ret
      exact fltRes_none HR.out HT.out
/-- a row plus a multiple of another -/
theorem addMultiple_f (g n c : Nat) (t : TypeId) (x : Nat → Int) (a : Int) (b2 o2 c2 : Nat) (y : Nat → Int) (w : World) (hx : RowI w t g n x) (hy : ∀ k, k < n → w.cell? ⟨b2, o2 + k, none⟩ = some (.int .i64 (y k))) (hg : b2 ≠ g) (hn : n ≤ 1000)
    (hbd : ∀ k, k < n → -4000000000 ≤ x k ∧ x k ≤ 4000000000 ∧ -4000000000 ≤ a * y k ∧ a * y k ≤ 4000000000) :
    Calls Try.prog 146 #[.slice (some ⟨g, 0, none⟩) n c, .int .i64 a, .slice (some ⟨b2, o2, none⟩) n c2] w fun e w' => e = .returned (.tuple #[]) ∧ RowI w' t g n (fun k => x k + a * y k) ∧ Only (· = g) w w' := by
  have HX := Lib.hid hx
  have HY := Lib.hid hy
  have HBD := Lib.hid hbd
  clear hx hy hbd
  by_cases ha : a = 0
  · subst ha
    go_enter Try.func146, Try.ntmps146
    go_wp2_with fail
    exact bodyPost_ret (v := .tuple #[]) (by simp [results, Try.results146, go_sem]) rfl ⟨rfl, HX.out.congr (fun k _ => by simp), Only.refl _ _⟩
  have hd : (a == 0) = false := by simp; exact ha
  clear ha
  go_enter Try.func146, Try.ntmps146
  go_wp2_with fail
  go_loopw [12] (fun v wr => ∃ k : Nat, k ≤ n ∧ v = .int .i64 k ∧ RowI wr t g n (fun j => if j < k then x j + a * y j else x j) ∧ Only (· = g) w wr) (fun v _ => n - (intOf v).toNat)
  case atStart => exact ⟨0, by omega, rfl, HX.out.congr (fun k _ => rfl), Only.refl _ _⟩
  case round =>
    obtain ⟨k, hk, rfl, hr, ho⟩ := hrel
    have HR := Lib.hid hr
    have HO := Lib.hid ho
    clear hr ho
    by_cases hkn : k < n
    · have e1 : wr.cell? ⟨b2, o2 + k, none⟩ = some (.int .i64 (y k)) := by
        rw [show wr.cell? ⟨b2, o2 + k, none⟩ = w.cell? ⟨b2, o2 + k, none⟩ from by unfold World.cell?; rw [show wr.heap[b2]? = w.heap[b2]? from HO.out.block b2 (by simpa using hg)]]
        exact HY.out k hkn
      have e2 : wr.cell? ⟨g, k, none⟩ = some (.int .i64 (x k)) := by simpa using RowB.cell HR.out hkn
      have e3 := RowB.frozen HR.out k
      obtain ⟨q1, q2, q3, q4⟩ := HBD.out k hkn
      obtain ⟨xk, hxk⟩ : ∃ v, v = x k := ⟨_, rfl⟩
      obtain ⟨yk, hyk⟩ : ∃ v, v = y k := ⟨_, rfl⟩
      rw [← hxk] at e2 q1 q2
      rw [← hyk] at e1 q3 q4
      have EX := Lib.hid hxk
      have EY := Lib.hid hyk
      clear hxk hyk
      have f1 : IntKind.i64.wrap (a * yk) = a * yk := IntWalk.i64_in _ (by omega)
      have f2 : IntKind.i64.wrap (xk + a * yk) = xk + a * yk := IntWalk.i64_in _ (by omega)
      go_wp2_with fail
      refine ⟨⟨k + 1, by omega, by go_num, (RowI.set HR.out k (xk + a * yk)).congr (fun j hj => ?_), HO.out.setCell rfl _⟩, by simp [intOf]; omega⟩
      by_cases e : j = k
      · subst e
        simp only [if_pos, if_pos (show j < j + 1 by omega)]
        rw [EX.out, EY.out]
      · simp only [if_neg e]
        by_cases e' : j < k
        · rw [if_pos e', if_pos (by omega)]
        · rw [if_neg e', if_neg (by omega)]
    · obtain rfl : k = n := by omega
      go_wp2_with fail
      go_end0
      exact ⟨rfl, HR.out.congr (fun j hj => by rw [if_pos hj]), HO.out⟩
end Go.Proofs.Ytmdmojklagmmiaa
