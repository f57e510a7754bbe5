/- Bounds: fractions, compared; the foremost one; of the program. -/
import Derived.Test.YtpfodikmidgpmaaDmC
import Derived.Deep.RegionLaw
namespace Go.Proofs.Ytpfodikmidgpmaa
open Go.RowKit
set_option linter.unusedSimpArgs false
/-- a fraction -/
def frV (t b : Int) : Value := .agg #[.int .i64 t, .int .i64 b]
theorem isLess_f (t1 b1 t2 b2 : Int) (w : World) (h1 : 0 ≤ t1 ∧ t1 ≤ 100000000000) (h2 : 0 ≤ b1 ∧ b1 ≤ 10000000) (h3 : 0 ≤ t2 ∧ t2 ≤ 100000000000) (h4 : 0 ≤ b2 ∧ b2 ≤ 10000000) :
    Calls Try.prog 124 #[.agg #[.int .i64 t1, .int .i64 b1], .agg #[.int .i64 t2, .int .i64 b2]] w fun e w' => e = .returned (.bool (decide (t1 * b2 < t2 * b1))) ∧ Below w.heap.size w w' := by
  have q1 : 0 ≤ t1 * b2 ∧ t1 * b2 ≤ 1000000000000000000 := by
    have := Int.mul_nonneg h1.1 h4.1
    have : t1 * b2 ≤ 100000000000 * 10000000 := Int.mul_le_mul h1.2 h4.2 h4.1 (by omega)
    omega
  have q2 : 0 ≤ t2 * b1 ∧ t2 * b1 ≤ 1000000000000000000 := by
    have := Int.mul_nonneg h3.1 h2.1
    have : t2 * b1 ≤ 100000000000 * 10000000 := Int.mul_le_mul h3.2 h2.2 h2.1 (by omega)
    omega
  have f1 : IntKind.i64.wrap (t1 * b2) = t1 * b2 := IntWalk.i64_in _ (by omega)
  have f2 : IntKind.i64.wrap (t2 * b1) = t2 * b1 := IntWalk.i64_in _ (by omega)
  clear q1 q2 h1 h2 h3 h4
  go_enter Try.func124, Try.ntmps124
  go_wp2_with fail
  go_ret
  exact ⟨rfl, (below_alloc w _).trans ((below_alloc _ _).mono (by simp))⟩
theorem isGreater_f (t1 b1 t2 b2 : Int) (w : World) (h1 : 0 ≤ t1 ∧ t1 ≤ 100000000000) (h2 : 0 ≤ b1 ∧ b1 ≤ 10000000) (h3 : 0 ≤ t2 ∧ t2 ≤ 100000000000) (h4 : 0 ≤ b2 ∧ b2 ≤ 10000000) :
    Calls Try.prog 125 #[.agg #[.int .i64 t1, .int .i64 b1], .agg #[.int .i64 t2, .int .i64 b2]] w fun e w' => e = .returned (.bool (decide (t2 * b1 < t1 * b2))) ∧ Below w.heap.size w w' := by
  have HL := Lib.hid (fun u => isLess_f t2 b2 t1 b1 u h3 h4 h1 h2)
  clear h1 h2 h3 h4
  go_enter Try.func125, Try.ntmps125
  go_wp2_with fail
  refine (HL.out _).mono ?_
  rintro e w1 ⟨rfl, hb⟩
  have HB := Lib.hid (((below_alloc w (.cells #[.int .i64 t1, .int .i64 b1] 106)).trans ((below_alloc _ (.cells #[.int .i64 t2, .int .i64 b2] 106)).mono (by simp))).trans (hb.mono (by simp; omega)))
  clear hb
  go_wp2_with fail
  go_ret
  exact ⟨rfl, HB.out⟩
/-- the foremost one of the first j of some fractions -/
def fmF (cmp : Int → Int → Int → Int → Bool) (T V : Nat → Int) : Nat → Int × Int
  | 0 => (T 0, V 0)
  | j + 1 => if cmp (T j) (V j) (fmF cmp T V j).1 (fmF cmp T V j).2 = true then (T j, V j) else fmF cmp T V j
theorem fm_some (cmp : Int → Int → Int → Int → Bool) (T V : Nat → Int) {n : Nat} (h0 : 0 < n) (j : Nat) (hj : j ≤ n) : ∃ i, i < n ∧ fmF cmp T V j = (T i, V i) := by
  induction j with
  | zero => exact ⟨0, h0, rfl⟩
  | succ j ih =>
    simp only [fmF]
    split
    · exact ⟨j, by omega, rfl⟩
    · exact ih (by omega)
set_option maxRecDepth 100000 in
theorem foremost_f (F : Nat) (cmp : Int → Int → Int → Int → Bool) (b off n c : Nat) (T V : Nat → Int) (w : World) (hb : b < w.heap.size) (hc : ∀ j, j < n → w.cell? ⟨b, off + j * 2, none⟩ = some (.int .i64 (T j)) ∧ w.cell? ⟨b, off + j * 2 + 1, none⟩ = some (.int .i64 (V j))) (h0 : 0 < n) (hn : n ≤ 100) (hent : ∀ args u, (callFunc F args).run Try.prog u = .ok (.enter F args) u)
    (hcmp : ∀ i j u, i < n → j < n → Calls Try.prog F #[.agg #[.int .i64 (T i), .int .i64 (V i)], .agg #[.int .i64 (T j), .int .i64 (V j)]] u fun e w' => e = .returned (.bool (cmp (T i) (V i) (T j) (V j))) ∧ Below u.heap.size u w') :
    Calls Try.prog 123 #[.slice (some ⟨b, off, none⟩) n c, .func (.func F) #[] #[]] w fun e w' => e = .returned (.agg #[.int .i64 (fmF cmp T V n).1, .int .i64 (fmF cmp T V n).2]) ∧ Below w.heap.size w w' := by
  have e0 : w.cell? ⟨b, off, none⟩ = some (.int .i64 (T 0)) := by simpa using (hc 0 h0).1
  have e1 : w.cell? ⟨b, off + 1, none⟩ = some (.int .i64 (V 0)) := by simpa using (hc 0 h0).2
  have HC := Lib.hid hc
  have HCm := Lib.hid hcmp
  clear hc hcmp
  go_enter Try.func123, Try.ntmps123
  go_wp2_with fail
  obtain ⟨w1, hw1⟩ : ∃ v, v = (w.alloc (.cells #[.int .i64 0, .int .i64 0] 106)).alloc (.cells #[.int .i64 (T 0), .int .i64 (V 0)] 106) := ⟨_, rfl⟩
  rw [← hw1]
  have HB1 := Lib.hid (show Below w.heap.size w w1 by rw [hw1]; exact (below_alloc w _).trans ((below_alloc _ _).mono (by simp)))
  have HR0 := Lib.hid (show RowI w1 106 w.heap.size 2 (fun _ => 0) by
    rw [hw1]
    refine RowB.alloc ⟨_, heap_alloc_new w _, fun i hi => ?_⟩ _
    rcases (by omega : i = 0 ∨ i = 1) with rfl | rfl <;> rfl)
  have HR1 := Lib.hid (show RowI w1 106 (w.heap.size + 1) 2 (fun i => if i = 0 then (fmF cmp T V 0).1 else (fmF cmp T V 0).2) by
    rw [hw1]
    have := heap_alloc_new (w.alloc (.cells #[.int .i64 0, .int .i64 0] 106)) (.cells #[.int .i64 (T 0), .int .i64 (V 0)] 106)
    simp only [World.size_alloc] at this
    refine ⟨_, this, fun i hi => ?_⟩
    rcases (by omega : i = 0 ∨ i = 1) with rfl | rfl <;> rfl)
  clear hw1 e0 e1
  go_loopw [13] (fun x wr => ∃ j : Nat, j ≤ n ∧ x = .int .i64 j ∧ Below w.heap.size w wr ∧ RowI wr 106 w.heap.size 2 (fun _ => 0) ∧ RowI wr 106 (w.heap.size + 1) 2 (fun i => if i = 0 then (fmF cmp T V j).1 else (fmF cmp T V j).2)) (fun x _ => n - (intOf x).toNat)
  case atStart => exact ⟨0, by omega, rfl, HB1.out, HR0.out, HR1.out⟩
  case round =>
    obtain ⟨j, hj, rfl, hbl, hr0, hr1⟩ := hrel
    obtain ⟨wo, hwo⟩ : ∃ v, v = wr := ⟨_, rfl⟩
    subst hwo
    have HB := Lib.hid hbl
    have HA0 := Lib.hid hr0
    have HA1 := Lib.hid hr1
    clear hbl hr0 hr1
    have hs1 : w.heap.size + 1 < wo.heap.size := RowB.lt HA1.out
    by_cases hjn : j < n
    · obtain ⟨i, hin, hi⟩ := fm_some cmp T V h0 j hj
      have e2 : wo.cell? ⟨b, off + j * 2, none⟩ = some (.int .i64 (T j)) := by rw [HB.out.cell (p := ⟨b, off + j * 2, none⟩) hb]; exact (HC.out j hjn).1
      have e3 : wo.cell? ⟨b, off + j * 2 + 1, none⟩ = some (.int .i64 (V j)) := by rw [HB.out.cell (p := ⟨b, off + j * 2 + 1, none⟩) hb]; exact (HC.out j hjn).2
      have e4 : (wo.alloc (.cells #[.int .i64 (T j), .int .i64 (V j)] 106)).cell? ⟨w.heap.size + 1, 0, none⟩ = some (.int .i64 (T i)) := by
        rw [World.cell?_alloc_lt wo _ ⟨w.heap.size + 1, 0, none⟩ hs1, RowB.cell HA1.out (i := 0) (by omega), hi]; rfl
      have e5 : (wo.alloc (.cells #[.int .i64 (T j), .int .i64 (V j)] 106)).cell? ⟨w.heap.size + 1, 1, none⟩ = some (.int .i64 (V i)) := by
        rw [World.cell?_alloc_lt wo _ ⟨w.heap.size + 1, 1, none⟩ hs1, RowB.cell HA1.out (i := 1) (by omega), hi]; rfl
      have HX := Lib.hid (fun u => HCm.out j i u hjn hin)
      have HN := Lib.hid (show fmF cmp T V (j + 1) = if cmp (T j) (V j) (T i) (V i) = true then (T j, V j) else (T i, V i) by simp only [fmF, hi])
      obtain ⟨wp, hwp⟩ : ∃ v, v = wo.alloc (.cells #[.int .i64 (T j), .int .i64 (V j)] 106) := ⟨_, rfl⟩
      have HBp := Lib.hid (show Below w.heap.size w wp by rw [hwp]; exact HB.out.alloc HB.out.size _)
      have HP0 := Lib.hid (show RowI wp 106 w.heap.size 2 (fun _ => 0) by rw [hwp]; exact RowB.alloc HA0.out _)
      have HP1 := Lib.hid (show RowI wp 106 (w.heap.size + 1) 2 (fun q => if q = 0 then (fmF cmp T V j).1 else (fmF cmp T V j).2) by rw [hwp]; exact RowB.alloc HA1.out _)
      have e6 : wp.cell? ⟨wo.heap.size, 0, none⟩ = some (.int .i64 (T j)) := by rw [hwp]; simp
      have e7 : wp.cell? ⟨wo.heap.size, 1, none⟩ = some (.int .i64 (V j)) := by rw [hwp]; simp
      have hsp : wo.heap.size < wp.heap.size := by rw [hwp]; simp
      have HE := Lib.hid hwp
      have HI := Lib.hid hi
      clear hi
      go_wp2_with fail
      refine (HX.out _).mono ?_
      rintro e w2 ⟨rfl, hb2⟩
      rw [← HE.out] at hb2
      have HB2 := Lib.hid (HBp.out.trans (hb2.mono HBp.out.size))
      have HQ0 := Lib.hid (show RowI w2 106 w.heap.size 2 (fun _ => 0) from RowB.below HP0.out hb2 (RowB.lt HP0.out))
      have HQ1 := Lib.hid (show RowI w2 106 (w.heap.size + 1) 2 (fun q => if q = 0 then (fmF cmp T V j).1 else (fmF cmp T V j).2) from RowB.below HP1.out hb2 (RowB.lt HP1.out))
      have e8 : w2.cell? ⟨wo.heap.size, 0, none⟩ = some (.int .i64 (T j)) := by rw [hb2.cell (p := ⟨wo.heap.size, 0, none⟩) hsp]; exact e6
      have e9 : w2.cell? ⟨wo.heap.size, 1, none⟩ = some (.int .i64 (V j)) := by rw [hb2.cell (p := ⟨wo.heap.size, 1, none⟩) hsp]; exact e7
      clear hb2 e2 e3 e4 e5 e6 e7
      cases hcm : cmp (T j) (V j) (T i) (V i)
      · have HN2 := Lib.hid (show fmF cmp T V (j + 1) = fmF cmp T V j by rw [HN.out, hcm, HI.out]; rfl)
        clear hcm
        go_wp2_with fail
        exact ⟨⟨j + 1, by omega, by go_num, HB2.out, HQ0.out, by rw [HN2.out]; exact HQ1.out⟩, by simp [intOf]; omega⟩
      · have HN2 := Lib.hid (show fmF cmp T V (j + 1) = (T j, V j) by rw [HN.out, hcm]; rfl)
        clear hcm
        have d0 := RowB.frozen HQ1.out 0
        have d1 := RowB.frozen HQ1.out 1
        have d2 := RowB.cell HQ1.out (i := 0) (by omega)
        have d3 := RowB.cell HQ1.out (i := 1) (by omega)
        go_wp2_with fail
        refine ⟨⟨j + 1, by omega, by go_num, (HB2.out.setCell (by simp) _).setCell (by simp) _, RowB.setOther (RowB.setOther HQ0.out (by simp) _) (by simp) _, ?_⟩, by simp [intOf]; omega⟩
        rw [HN2.out]
        refine RowI.congr (RowI.set (RowI.set HQ1.out 0 (T j)) 1 (V j)) fun q hq => ?_
        rcases (by omega : q = 0 ∨ q = 1) with rfl | rfl <;> simp
    · obtain rfl : j = n := by omega
      have e2 := RowB.cell HA1.out (i := 0) (by omega)
      have e3 := RowB.cell HA1.out (i := 1) (by omega)
      have d0 := RowB.frozen HA0.out 0
      have d1 := RowB.frozen HA0.out 1
      have d2 := RowB.cell HA0.out (i := 0) (by omega)
      have d3 := RowB.cell HA0.out (i := 1) (by omega)
      have HR2 := Lib.hid (show RowI ((wo.setCell ⟨w.heap.size, 0, none⟩ (.int .i64 (fmF cmp T V j).1)).setCell ⟨w.heap.size, 1, none⟩ (.int .i64 (fmF cmp T V j).2)) 106 w.heap.size 2 (fun q => if q = 0 then (fmF cmp T V j).1 else (fmF cmp T V j).2) from RowI.congr (RowI.set (RowI.set HA0.out 0 _) 1 _) fun q hq => by
        rcases (by omega : q = 0 ∨ q = 1) with rfl | rfl <;> simp)
      have HB2 := Lib.hid (show Below w.heap.size w ((wo.setCell ⟨w.heap.size, 0, none⟩ (.int .i64 (fmF cmp T V j).1)).setCell ⟨w.heap.size, 1, none⟩ (.int .i64 (fmF cmp T V j).2)) from (HB.out.setCell (Nat.le_refl _) _).setCell (Nat.le_refl _) _)
      have e4 := RowB.cell HR2.out (i := 0) (by omega)
      have e5 := RowB.cell HR2.out (i := 1) (by omega)
      simp only [if_pos, if_neg (show ¬ (1 = 0) by omega)] at e4 e5
      go_wp2_with fail
      refine bodyPost_ret (v := .agg #[.int .i64 (fmF cmp T V j).1, .int .i64 (fmF cmp T V j).2]) (by simp [results, Try.results123, go_sem, e4, e5]) rfl ⟨rfl, HB2.out⟩
theorem enter_less (args : Array Value) (u : World) : (callFunc 124 args).run Try.prog u = .ok (.enter 124 args) u := by simp [go_sem]
theorem enter_greater (args : Array Value) (u : World) : (callFunc 125 args).run Try.prog u = .ok (.enter 125 args) u := by simp [go_sem]
end Go.Proofs.Ytpfodikmidgpmaa
