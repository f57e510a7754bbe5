/- Powers of labels: of both. -/
import Derived.Test.YtaffdoihmalilabRgL
import Derived.Deep.RegionHeld3
namespace Go.Proofs.Ytaffdoihmalilab
open Go.RowKit
set_option linter.unusedSimpArgs false
/-- the vector of a label -/
def oneZ (i k : Nat) : Int := if k = i then 1 else 0
theorem oneZ_bd (i k : Nat) : 0 ≤ oneZ i k ∧ oneZ i k ≤ 1 := by unfold oneZ; split <;> omega
/-- powers of a label -/
def pwZ (n : Nat) (f : Nat → Nat → Nat → Int) (i : Nat) : Nat → Nat → Int
  | 0 => oneZ 0
  | t + 1 => timZ n f (pwZ n f i t) (oneZ i)
def okV (n : Nat) (v : Nat → Int) : Bool := decide (∀ k, k < n → v k ≤ 1000000000)
theorem okV_t {n : Nat} {v : Nat → Int} (h : okV n v = true) : ∀ k, k < n → v k ≤ 1000000000 := of_decide_eq_true h
theorem okV_mk {n : Nat} {v : Nat → Int} (h : ∀ k, k < n → v k ≤ 1000000000) : okV n v = true := decide_eq_true h
theorem okV_no {n k : Nat} {v : Nat → Int} (hk : k < n) (h : 1000000000 < v k) : okV n v = false := decide_eq_false fun c => by have := c k hk; omega
def okP (n : Nat) (f : Nat → Nat → Nat → Int) (i k : Nat) : Bool := decide (∀ t, t < k → okV n (pwZ n f i (t + 1)) = true)
theorem okP_mk {n : Nat} {f : Nat → Nat → Nat → Int} {i k : Nat} (h : ∀ t, t < k → okV n (pwZ n f i (t + 1)) = true) : okP n f i k = true := decide_eq_true h
theorem okP_no {n : Nat} {f : Nat → Nat → Nat → Int} {i k t : Nat} (ht : t < k) (h : okV n (pwZ n f i (t + 1)) = false) : okP n f i k = false := decide_eq_false fun c => by rw [c t ht] at h; cases h
theorem sumZ_nonneg {g : Nat → Int} {n : Nat} (h : ∀ i, i < n → 0 ≤ g i) : 0 ≤ sumZ g n := by
  induction n with
  | zero => exact Int.le_refl _
  | succ n ih => simp only [sumZ]; have := ih (fun i hi => h i (by omega)); have := h n (by omega); omega
theorem pw_nonneg {n : Nat} {f : Nat → Nat → Nat → Int} (hf : ∀ i j k, i < n → j < n → k < n → 0 ≤ f i j k) (i : Nat) : ∀ t k, k < n → 0 ≤ pwZ n f i t k := by
  intro t
  induction t with
  | zero => intro k _; exact (oneZ_bd 0 k).1
  | succ t ih =>
    intro k hk
    show 0 ≤ timZ n f (pwZ n f i t) (oneZ i) k
    unfold timZ
    exact sumZ_nonneg fun a ha => sumZ_nonneg fun b hb => Int.mul_nonneg (Int.mul_nonneg (ih a ha) (oneZ_bd i b).1) (hf a b k ha hb hk)
theorem pw_xy {n : Nat} {f : Nat → Nat → Nat → Int} (hf : ∀ i j k, i < n → j < n → k < n → 0 ≤ f i j k) {i t : Nat} (h : ∀ s, s < t → okV n (pwZ n f i (s + 1)) = true) : ∀ a b, a < n → b < n → 0 ≤ pwZ n f i t a * oneZ i b ∧ pwZ n f i t a * oneZ i b ≤ 1000000000000 := by
  intro a b ha hb
  have h1 : pwZ n f i t a ≤ 1000000000 := by
    cases t with
    | zero => have := oneZ_bd 0 a; show oneZ 0 a ≤ _; omega
    | succ t => exact okV_t (h t (by omega)) a ha
  have := mul_le ⟨pw_nonneg hf i t a ha, h1⟩ (oneZ_bd i b)
  omega
theorem made_one (w1 : World) (n i : Nat) : RowI (w1.alloc (.cells ((madeCells #[.int .i64 0] n).setIfInBounds i (.int .i64 1)) 2)) 2 w1.heap.size n (oneZ i) :=
  ⟨_, heap_alloc_new w1 _, fun j hj => by
    rw [Array.getElem?_setIfInBounds]
    simp only [oneZ]
    by_cases e : i = j
    · rw [if_pos e, if_pos (by rw [size_madeCells, e]; exact hj), if_pos e.symm]
    · rw [if_neg e, if_neg (fun h => e h.symm)]; simp [madeCells, hj, Nat.mod_one]⟩
theorem vector_f (a : Option Addr) (n c i : Nat) (w : World) (hi : i < n) (hn : n ≤ 1000) :
    Calls Try.prog 93 #[.agg #[.slice a n c], .int .i64 i] w fun e w' => ∃ g, e = .returned (.slice (some ⟨g, 0, none⟩) n n) ∧ w.heap.size ≤ g ∧ RowI w' 2 g n (oneZ i) ∧ Below w.heap.size w w' := by
  have hmk := run_make_row' (P := Try.prog) 32 2 (.int .i64 0) 8 Try.underlying32 infoI64 rfl .i64 .i64 n (by omega) (by omega)
  go_enter Try.func93, Try.ntmps93
  go_wp2_with fail
  refine (rank_f _ n c _).mono ?_
  rintro e w1 ⟨rfl, hb1⟩
  have HB1 := Lib.hid ((below_alloc w (.cells #[.slice a n c] 28)).trans (hb1.mono (by simp)))
  have HR := Lib.hid (show RowI (w1.alloc (.cells (madeCells #[.int .i64 0] n) 2)) 2 w1.heap.size n (fun _ => 0) from (RowB_of_rowIs (World.rowIs_made w1 (.int .i64 0) n 2)))
  have e1 := RowB.cell HR.out hi
  have e2 := RowB.frozen HR.out i
  clear hb1
  go_wp2_with fail
  go_ret
  exact ⟨w1.heap.size, rfl, HB1.out.size, made_one w1 n i, HB1.out.alloc HB1.out.size _⟩
theorem l03One_f (a : Option Addr) (n c i : Nat) (w : World) (hi : i < n) (hn : n ≤ 1000) :
    Calls Try.prog 63 #[.agg #[.slice a n c], .int .i64 i] w fun e w' => ∃ g, e = .returned (.slice (some ⟨g, 0, none⟩) n n) ∧ w.heap.size ≤ g ∧ RowI w' 2 g n (oneZ i) ∧ Below w.heap.size w w' := by
  have hmk := run_make_row' (P := Try.prog) 32 2 (.int .i64 0) 8 Try.underlying32 infoI64 rfl .i64 .i64 n (by omega) (by omega)
  have HB := Lib.hid (below_alloc w (.cells #[.slice a n c] 28))
  have hR := RowB_of_rowIs (World.rowIs_made (w.alloc (.cells #[.slice a n c] 28)) (.int .i64 0) n 2)
  have e1 := RowB.cell hR hi
  have e2 := RowB.frozen hR i
  have HM := Lib.hid (made_one (w.alloc (.cells #[.slice a n c] 28)) n i)
  simp only [World.size_alloc] at e1 e2 HM
  clear hR
  go_enter Try.func63, Try.ntmps63
  go_wp2_with fail
  go_ret
  exact ⟨w.heap.size + 1, rfl, by omega, HM.out, HB.out.alloc HB.out.size _⟩
/-- the greatest number of a list -/
def maxZ (x : Nat → Int) : Nat → Int
  | 0 => x 0
  | n + 1 => if maxZ x n < x n then x n else maxZ x n
theorem maxZ_ok {n : Nat} {x : Nat → Int} (h0 : 0 < n) : decide (1000000000 < maxZ x n) = !okV n x := by
  have key : ∀ m, (1000000000 < maxZ x m) ↔ (1000000000 < x 0 ∨ ∃ k, k < m ∧ 1000000000 < x k) := by
    intro m
    induction m with
    | zero => exact ⟨Or.inl, fun h => by rcases h with h | ⟨k, hk, _⟩; exact h; omega⟩
    | succ m ih =>
      simp only [maxZ]
      rw [show (1000000000 < (if maxZ x m < x m then x m else maxZ x m)) ↔ (1000000000 < maxZ x m ∨ 1000000000 < x m) by split <;> omega, ih]
      constructor
      · rintro ((h | ⟨k, hk, h⟩) | h)
        · exact Or.inl h
        · exact Or.inr ⟨k, by omega, h⟩
        · exact Or.inr ⟨m, by omega, h⟩
      · rintro (h | ⟨k, hk, h⟩)
        · exact Or.inl (Or.inl h)
        · by_cases e : k = m
          · rw [e] at h; exact Or.inr h
          · exact Or.inl (Or.inr ⟨k, by omega, h⟩)
  by_cases e : 1000000000 < maxZ x n
  · rw [decide_eq_true e]
    have : okV n x = false := by
      rcases (key n).1 e with h | ⟨k, hk, h⟩
      · exact okV_no h0 h
      · exact okV_no hk h
    rw [this]; rfl
  · rw [decide_eq_false e, okV_mk fun k hk => by
      refine Int.not_lt.1 fun h => e ((key n).2 (Or.inr ⟨k, hk, h⟩))]
    rfl
theorem max_f (a : Option Addr) (n c : Nat) (x : Nat → Int) (w : World) (h : RdR w a n x) (h0 : 0 < n) (hn : n ≤ 1000) :
    Calls Try.prog 94 #[.slice a n c] w fun e w' => e = .returned (.int .i64 (maxZ x n)) ∧ w = w' := by
  obtain ⟨b, off, rfl, hb, hc⟩ := h.open h0
  have HC := Lib.hid hc
  have hd : decide ((n : Int) < 1) = false := by simp; omega
  have e0 : w.cell? ⟨b, off, none⟩ = some (.int .i64 (x 0)) := by simpa using hc 0 h0
  have HM := Lib.hid (show x 0 = maxZ x 1 by simp [maxZ])
  clear h hc
  obtain ⟨x0, hx0⟩ : ∃ v, v = x 0 := ⟨_, rfl⟩
  rw [← hx0] at e0 HM
  clear hx0
  go_enter Try.func94, Try.ntmps94
  go_wp2_with fail
  clear e0
  go_loop [3, 4] (fun m v => ∃ k : Nat, 1 ≤ k ∧ k ≤ n ∧ v = .int .i64 k ∧ m = .int .i64 (maxZ x k)) (fun _ v => n - (intOf v).toNat)
  case atStart => exact ⟨1, by omega, by omega, rfl, by rw [HM.out]⟩
  case round =>
    obtain ⟨k, hk1, hk, rfl, rfl⟩ := hrel
    by_cases hkn : k < n
    · have e1 := HC.out k hkn
      have HN := Lib.hid (show maxZ x (k + 1) = (if maxZ x k < x k then x k else maxZ x k) from rfl)
      generalize maxZ x k = m at *
      generalize x k = xk at *
      go_wp2_with fail
      exact ⟨⟨k + 1, by omega, by omega, by go_num, by rw [HN.out]⟩, by simp [intOf]; omega⟩
    · obtain rfl : k = n := by omega
      go_wp2_with fail
      go_ret
      exact ⟨rfl, rfl⟩
/-- what a power gives: the list, or that a number was too great -/
def PowRes (w : World) (n : Nat) (f : Nat → Nat → Nat → Int) (i k : Nat) (e : Ending) (w' : World) : Prop :=
  (okP n f i k = true ∧ ∃ g, e = .returned (.tuple #[.slice (some ⟨g, 0, none⟩) n n, .bool true]) ∧ w.heap.size ≤ g ∧ RowI w' 2 g n (pwZ n f i k) ∧ Below w.heap.size w w') ∨
  (okP n f i k = false ∧ e = .returned (.tuple #[.slice none 0 0, .bool false]) ∧ Below w.heap.size w w')
set_option maxHeartbeats 8000000 in
set_option maxRecDepth 100000 in
theorem power_f (b off n c : Nat) (B O C : Nat → Nat) (B2 O2 C2 : Nat → Nat → Nat) (f : Nat → Nat → Nat → Int) (i k : Nat) (w : World) (h : CubeAt w b off n B O C B2 O2 C2 f) (hn : n ≤ 16) (h0 : 0 < n) (hi : i < n) (hf : ∀ i j k, i < n → j < n → k < n → 0 ≤ f i j k ∧ f i j k ≤ 1000) (hk : k ≤ 40) :
    Calls Try.prog 65 #[.agg #[.slice (some ⟨b, off, none⟩) n c], .int .i64 i, .int .i64 k] w (PowRes w n f i k) := by
  have H := Lib.hid h
  have HF := Lib.hid hf
  have HF0 := Lib.hid (fun i j k hi hj hk => (hf i j k hi hj hk).1)
  obtain ⟨W, hW⟩ : ∃ W, W = w.alloc (.cells #[.slice (some ⟨b, off, none⟩) n c] 28) := ⟨_, rfl⟩
  have HWe := Lib.hid hW
  have HW0 := Lib.hid (show Below w.heap.size w W by rw [hW]; exact below_alloc w _)
  have HWs := Lib.hid (show W.heap.size = w.heap.size + 1 by rw [hW]; simp)
  have KW := Lib.hid (show W.cell? ⟨w.heap.size, 0, none⟩ = some (.slice (some ⟨b, off, none⟩) n c) by rw [hW]; exact cell_box _ _ _)
  clear hW
  clear h hf
  go_enter Try.func65, Try.ntmps65
  go_wp2_with fail
  rw [← HWe.out]
  go_region_held3 (fun u => u.cell? ⟨w.heap.size, 0, none⟩ = some (.slice (some ⟨b, off, none⟩) n c)) (first | exact KB.out | exact KA.out | exact KW.out) (first | (have q9 := HB1.out; clear q9; go_at_call 93; refine (vector_f _ n c i _ hi (by omega)).mono ?_; rintro e w3 ⟨g2, rfl, hg2, hr2, hb2⟩; have HB2 := Lib.hid (HB1.out.trans (hb2.mono HB1.out.size)); have HG2 := Lib.hid (show w.heap.size + 1 ≤ g2 from by have := HB1.out.size; have := HWs.out; omega); have HR2 := Lib.hid hr2; have HR1b := Lib.hid (show RowI w3 2 g1 n (oneZ 0) from RowB.below HR1.out hb2 (RowB.lt HR1.out)); have HNE := Lib.hid (show g1 ≠ g2 from by have := RowB.lt HR1.out; omega); have KB := Lib.hid (show w3.cell? ⟨w.heap.size, 0, none⟩ = some (.slice (some ⟨b, off, none⟩) n c) from (HB2.out.cell (p := ⟨w.heap.size, 0, none⟩) (by rw [HWs.out]; show w.heap.size < _; omega)).trans KW.out); clear hg2 hr2 hb2) | (go_at_call 93; refine (vector_f _ n c 0 _ h0 (by omega)).mono ?_; rintro e w2 ⟨g1, rfl, hg1, hr1, hb1⟩; have HB1 := Lib.hid (show Below W.heap.size W w2 from ⟨hb1.os, hb1.tape, hb1.output, hb1.size, hb1.block⟩); have HG1 := Lib.hid (show w.heap.size + 1 ≤ g1 from by have q := HWs.out; have q2 : W.heap.size ≤ g1 := hg1; omega); have HR1 := Lib.hid hr1; have KA := Lib.hid (show w2.cell? ⟨w.heap.size, 0, none⟩ = some (.slice (some ⟨b, off, none⟩) n c) from (HB1.out.cell (p := ⟨w.heap.size, 0, none⟩) (by rw [HWs.out]; show w.heap.size < _; omega)).trans KW.out); clear hg1 hr1 hb1))
  clear KA HB1
  go_wp2_with fail
  go_loopw [8, 16] (fun v x wr => ∃ (t g : Nat), t ≤ k ∧ x = .int .i64 t ∧ v = .slice (some ⟨g, 0, none⟩) n n ∧ Below W.heap.size W wr ∧ w.heap.size + 1 ≤ g ∧ RowI wr 2 g n (pwZ n f i t) ∧ RowI wr 2 g2 n (oneZ i) ∧ ∀ s, s < t → okV n (pwZ n f i (s + 1)) = true) (fun _ x _ => k - (intOf x).toNat)
  case atStart => exact ⟨0, g1, by omega, rfl, rfl, HB2.out, HG1.out, HR1b.out, HR2.out, fun s hs => absurd hs (by omega)⟩
  case round =>
    obtain ⟨t, g, ht, rfl, rfl, hbl, hg, hrow, hlab, hall⟩ := hrel
    have HB := Lib.hid hbl
    have HR := Lib.hid hrow
    have HL := Lib.hid hlab
    have HA := Lib.hid hall
    have HG := Lib.hid hg
    have HT := Lib.hid (show Below w.heap.size w wr from HW0.out.trans (hbl.mono (by rw [HWs.out]; omega)))
    clear hbl hrow hlab hall hg
    by_cases htk : t < k
    · have e0 : wr.cell? ⟨w.heap.size, 0, none⟩ = some (.slice (some ⟨b, off, none⟩) n c) := (HB.out.cell (p := ⟨w.heap.size, 0, none⟩) (by rw [HWs.out]; show w.heap.size < _; omega)).trans KW.out
      have HX := Lib.hid (times_f b off n c B O C B2 O2 C2 f (some ⟨g, 0, none⟩) (some ⟨g2, 0, none⟩) n n (pwZ n f i t) (oneZ i) wr (H.out.below HT.out) (RowI.rd HR.out) (RowI.rd HL.out) hn h0 HF.out (pw_xy HF0.out HA.out))
      go_wp2_with fail
      refine HX.out.mono ?_
      rintro e w4 ⟨g4, rfl, hg4, hr4, hb4⟩
      have HB4 := Lib.hid (HB.out.trans (hb4.mono HB.out.size))
      have HT4 := Lib.hid (HT.out.trans (hb4.mono HT.out.size))
      have HR4 := Lib.hid (show RowI w4 2 g4 n (pwZ n f i (t + 1)) from hr4)
      have HL4 := Lib.hid (show RowI w4 2 g2 n (oneZ i) from RowB.below HL.out hb4 (RowB.lt HL.out))
      have HG4 := Lib.hid (show w.heap.size + 1 ≤ g4 from by have := HB.out.size; have := HWs.out; omega)
      clear hg4 hr4 hb4 e0 HX
      have HM := Lib.hid (max_f (some ⟨g4, 0, none⟩) n n (pwZ n f i (t + 1)) w4 (RowI.rd HR4.out) h0 (by omega))
      have hmx := maxZ_ok (n := n) (x := pwZ n f i (t + 1)) h0
      obtain ⟨mz, hmz⟩ : ∃ m, m = maxZ (pwZ n f i (t + 1)) n := ⟨_, rfl⟩
      rw [← hmz] at HM hmx
      clear hmz
      cases hok : okV n (pwZ n f i (t + 1))
      · rw [hok] at hmx
        have hmx2 : decide (1000000000 < mz) = true := hmx
        have HN := Lib.hid (okP_no htk hok)
        clear hmx hok
        go_wp2_with fail
        refine HM.out.mono ?_
        rintro e w5 ⟨rfl, rfl⟩
        go_wp2_with fail
        go_ret2
        exact Or.inr ⟨HN.out, rfl, HT4.out⟩
      · rw [hok] at hmx
        have hmx2 : decide (1000000000 < mz) = false := hmx
        have HN := Lib.hid (show ∀ s, s < t + 1 → okV n (pwZ n f i (s + 1)) = true from fun s hs => by
          by_cases e : s = t
          · rw [e]; exact hok
          · exact HA.out s (by omega))
        clear hmx hok
        go_wp2_with fail
        refine HM.out.mono ?_
        rintro e w5 ⟨rfl, rfl⟩
        go_wp2_with fail
        exact ⟨⟨t + 1, g4, by omega, by go_num, rfl, HB4.out, HG4.out, HR4.out, HL4.out, HN.out⟩, by simp [intOf]; omega⟩
    · obtain rfl : t = k := by omega
      have HN := Lib.hid (okP_mk HA.out)
      have HGw := Lib.hid (show w.heap.size ≤ g from by have := HG.out; omega)
      go_wp2_with fail
      go_ret2
      exact Or.inl ⟨HN.out, g, rfl, HGw.out, HR.out, HT.out⟩
end Go.Proofs.Ytaffdoihmalilab
