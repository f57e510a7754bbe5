/- Weights of a step: of both; WeightsOf. -/
import Derived.Test.YtbbgmfahdpimfaaDmA
import Derived.Test.YtbbgmfahdpimfaaRgQ
namespace Go.Proofs.Ytbbgmfahdpimfaa
open Go.RowKit
set_option linter.unusedSimpArgs false
/-- the weights of a step -/
def wtZ (n : Nat) (f : Nat → Nat → Nat → Int) : Nat → Nat → Int
  | 0 => fun _ => 1
  | t + 1 => nxZ n f (wtZ n f t)
/-- no number is above L -/
def leV (L : Int) (n : Nat) (v : Nat → Int) : Bool := decide (∀ k, k < n → v k ≤ L)
theorem leV_t {L : Int} {n : Nat} {v : Nat → Int} (h : leV L n v = true) : ∀ k, k < n → v k ≤ L := of_decide_eq_true h
theorem leV_mk {L : Int} {n : Nat} {v : Nat → Int} (h : ∀ k, k < n → v k ≤ L) : leV L n v = true := decide_eq_true h
theorem leV_no {L : Int} {n k : Nat} {v : Nat → Int} (hk : k < n) (h : L < v k) : leV L n v = false := decide_eq_false fun c => by have := c k hk; omega
theorem maxZ_lt (L : Int) {n : Nat} {x : Nat → Int} (h0 : 0 < n) : decide (L < maxZ x n) = !leV L n x := by
  have key : ∀ m, (L < maxZ x m) ↔ (L < x 0 ∨ ∃ k, k < m ∧ L < x k) := by
    intro m
    induction m with
    | zero => exact ⟨Or.inl, fun h => by rcases h with h | ⟨k, hk, _⟩; exact h; omega⟩
    | succ m ih =>
      simp only [maxZ]
      rw [show (L < (if maxZ x m < x m then x m else maxZ x m)) ↔ (L < maxZ x m ∨ L < x m) by split <;> omega, ih]
      constructor
      · rintro ((h | ⟨k, hk, h⟩) | h)
        · exact Or.inl h
        · exact Or.inr ⟨k, by omega, h⟩
        · exact Or.inr ⟨m, by omega, h⟩
      · rintro (h | ⟨k, hk, h⟩)
        · exact Or.inl (Or.inl h)
        · by_cases e : k = m
          · rw [e] at h; exact Or.inr h
          · exact Or.inl (Or.inr ⟨k, by omega, h⟩)
  by_cases e : L < maxZ x n
  · rw [decide_eq_true e]
    have : leV L n x = false := by
      rcases (key n).1 e with h | ⟨k, hk, h⟩
      · exact leV_no h0 h
      · exact leV_no hk h
    rw [this]; rfl
  · rw [decide_eq_false e, leV_mk fun k hk => by
      refine Int.not_lt.1 fun h => e ((key n).2 (Or.inr ⟨k, hk, h⟩))]
    rfl
def okT (n : Nat) (f : Nat → Nat → Nat → Int) (t : Nat) : Bool := decide (∀ s, s < t → leV 1000000 n (wtZ n f (s + 1)) = true)
theorem okT_mk {n : Nat} {f : Nat → Nat → Nat → Int} {t : Nat} (h : ∀ s, s < t → leV 1000000 n (wtZ n f (s + 1)) = true) : okT n f t = true := decide_eq_true h
theorem okT_t {n : Nat} {f : Nat → Nat → Nat → Int} {t : Nat} (h : okT n f t = true) : ∀ s, s < t → leV 1000000 n (wtZ n f (s + 1)) = true := of_decide_eq_true h
theorem okT_no {n : Nat} {f : Nat → Nat → Nat → Int} {t s : Nat} (hs : s < t) (h : leV 1000000 n (wtZ n f (s + 1)) = false) : okT n f t = false := decide_eq_false fun c => by rw [c s hs] at h; cases h
theorem wt_nonneg {n : Nat} {f : Nat → Nat → Nat → Int} (hf : ∀ i j k, i < n → j < n → k < n → 0 ≤ f i j k ∧ f i j k ≤ 1000) (t : Nat) : ∀ k, k < n → 0 ≤ wtZ n f t k := by
  induction t with
  | zero => intro k _; simp [wtZ]
  | succ t ih => intro j hj; exact sumZ_pos fun i hi => sumZ_pos fun k hk => Int.mul_nonneg (hf i j k hi hj hk).1 (ih k hk)
theorem wt_bd {n : Nat} {f : Nat → Nat → Nat → Int} (hf : ∀ i j k, i < n → j < n → k < n → 0 ≤ f i j k ∧ f i j k ≤ 1000) {t : Nat} (h : ∀ s, s < t → leV 1000000 n (wtZ n f (s + 1)) = true) : ∀ k, k < n → 0 ≤ wtZ n f t k ∧ wtZ n f t k ≤ 1000000 := by
  intro k hk
  refine ⟨wt_nonneg hf t k hk, ?_⟩
  cases t with
  | zero => simp [wtZ]
  | succ t => exact leV_t (h t (by omega)) k hk
/-- what the weights give: the list, or that a number was too great -/
def WtRes (w : World) (n : Nat) (f : Nat → Nat → Nat → Int) (t : Nat) (e : Ending) (w' : World) : Prop :=
  (okT n f t = true ∧ ∃ g cg, e = .returned (.tuple #[.slice (some ⟨g, 0, none⟩) n cg, .bool true]) ∧ w.heap.size ≤ g ∧ RowI w' 2 g n (wtZ n f t) ∧ Below w.heap.size w w') ∨
  (okT n f t = false ∧ e = .returned (.tuple #[.slice none 0 0, .bool false]) ∧ Below w.heap.size w w')
set_option maxRecDepth 100000 in
theorem weights_f (b off n c : Nat) (B O C : Nat → Nat) (B2 O2 C2 : Nat → Nat → Nat) (f : Nat → Nat → Nat → Int) (k : Nat) (w : World) (h : CubeAt w b off n B O C B2 O2 C2 f) (hn : n ≤ 16) (h0 : 0 < n) (hf : ∀ i j k, i < n → j < n → k < n → 0 ≤ f i j k ∧ f i j k ≤ 1000) (hk : k ≤ 40) :
    Calls Try.prog 49 #[.agg #[.slice (some ⟨b, off, none⟩) n c], .int .i64 k] w (WtRes w n f k) := by
  have H := Lib.hid h
  have HF := Lib.hid hf
  obtain ⟨W, hW⟩ : ∃ W, W = w.alloc (.cells #[.slice (some ⟨b, off, none⟩) n c] 29) := ⟨_, rfl⟩
  have HWe := Lib.hid hW
  have HW0 := Lib.hid (show Below w.heap.size w W by rw [hW]; exact below_alloc w _)
  have HWs := Lib.hid (show W.heap.size = w.heap.size + 1 by rw [hW]; simp)
  have KW := Lib.hid (show W.cell? ⟨w.heap.size, 0, none⟩ = some (.slice (some ⟨b, off, none⟩) n c) by rw [hW]; exact cell_box _ _ _)
  clear hW
  clear h hf
  go_enter Try.func49, Try.ntmps49
  go_wp2_with fail
  rw [← HWe.out]
  refine (firstWeights_f (some ⟨b, off, none⟩) n c W h0 (by omega)).mono ?_
  rintro e w1 ⟨g1, rfl, hg1, hr1, hb1⟩
  have HB1 := Lib.hid hb1
  have HR1 := Lib.hid hr1
  have HG1 := Lib.hid hg1
  clear hg1 hr1 hb1
  go_wp2_with fail
  go_loopw [6, 10] (fun v x wr => ∃ (t g : Nat), t ≤ k ∧ x = .int .i64 t ∧ v = .slice (some ⟨g, 0, none⟩) n n ∧ Below W.heap.size W wr ∧ W.heap.size ≤ g ∧ RowI wr 2 g n (wtZ n f t) ∧ ∀ s, s < t → leV 1000000 n (wtZ n f (s + 1)) = true) (fun _ x _ => k - (intOf x).toNat)
  case atStart => exact ⟨0, g1, by omega, rfl, rfl, HB1.out, HG1.out, HR1.out, fun s hs => absurd hs (by omega)⟩
  case round =>
    obtain ⟨t, g, ht, rfl, rfl, hbl, hg, hrow, hall⟩ := hrel
    have HB := Lib.hid hbl
    have HR := Lib.hid hrow
    have HA := Lib.hid hall
    have HG := Lib.hid hg
    have HT := Lib.hid (show Below w.heap.size w wr from HW0.out.trans (hbl.mono (by rw [HWs.out]; omega)))
    clear hbl hrow hall hg
    by_cases htk : t < k
    · have e0 : wr.cell? ⟨w.heap.size, 0, none⟩ = some (.slice (some ⟨b, off, none⟩) n c) := (HB.out.cell (p := ⟨w.heap.size, 0, none⟩) (by rw [HWs.out]; show w.heap.size < _; omega)).trans KW.out
      have HX := Lib.hid (nextWeights_f b off n c B O C B2 O2 C2 f (some ⟨g, 0, none⟩) n (wtZ n f t) wr (H.out.below HT.out) (RowI.rd HR.out) hn h0 HF.out (fun k hk => by have := wt_bd HF.out HA.out k hk; omega))
      go_wp2_with fail
      refine HX.out.mono ?_
      rintro e w4 ⟨g4, rfl, hg4, hr4, hb4⟩
      have HB4 := Lib.hid (HB.out.trans (hb4.mono HB.out.size))
      have HT4 := Lib.hid (HT.out.trans (hb4.mono HT.out.size))
      have HR4 := Lib.hid (show RowI w4 2 g4 n (wtZ n f (t + 1)) from hr4)
      have HG4 := Lib.hid (show W.heap.size ≤ g4 from Nat.le_trans HB.out.size hg4)
      clear hg4 hr4 hb4 e0 HX
      have HM := Lib.hid (max_f (some ⟨g4, 0, none⟩) n n (wtZ n f (t + 1)) w4 (RowI.rd HR4.out) h0 (by omega))
      have hmx := maxZ_lt 1000000 (n := n) (x := wtZ n f (t + 1)) h0
      obtain ⟨mz, hmz⟩ : ∃ m, m = maxZ (wtZ n f (t + 1)) n := ⟨_, rfl⟩
      rw [← hmz] at HM hmx
      clear hmz
      cases hok : leV 1000000 n (wtZ n f (t + 1))
      · rw [hok] at hmx
        have hmx2 : decide (1000000 < mz) = true := hmx
        have HN := Lib.hid (okT_no htk hok)
        clear hmx hok
        go_wp2_with fail
        refine HM.out.mono ?_
        rintro e w5 ⟨rfl, rfl⟩
        go_wp2_with fail
        go_ret2
        exact Or.inr ⟨HN.out, rfl, HT4.out⟩
      · rw [hok] at hmx
        have hmx2 : decide (1000000 < mz) = false := hmx
        have HN := Lib.hid (show ∀ s, s < t + 1 → leV 1000000 n (wtZ n f (s + 1)) = true from fun s hs => by
          by_cases e : s = t
          · rw [e]; exact hok
          · exact HA.out s (by omega))
        clear hmx hok
        go_wp2_with fail
        refine HM.out.mono ?_
        rintro e w5 ⟨rfl, rfl⟩
        go_wp2_with fail
        exact ⟨⟨t + 1, g4, by omega, by go_num, rfl, HB4.out, HG4.out, HR4.out, HN.out⟩, by simp [intOf]; omega⟩
    · obtain rfl : t = k := by omega
      have HN := Lib.hid (okT_mk HA.out)
      have HGw := Lib.hid (show w.heap.size ≤ g from by have := HG.out; have := HWs.out; omega)
      go_wp2_with fail
      go_ret2
      exact Or.inl ⟨HN.out, g, n, rfl, HGw.out, HR.out, HT.out⟩
set_option maxRecDepth 100000 in
theorem l04Next_f (b off n c : Nat) (B O C : Nat → Nat) (B2 O2 C2 : Nat → Nat → Nat) (f : Nat → Nat → Nat → Int) (a1 : Option Addr) (c1 : Nat) (v : Nat → Int) (w : World) (h : CubeAt w b off n B O C B2 O2 C2 f) (h1 : RdR w a1 n v) (hn : n ≤ 16) (h0 : 0 < n) (hf : ∀ i j k, i < n → j < n → k < n → 0 ≤ f i j k ∧ f i j k ≤ 1000) (hv : ∀ k, k < n → 0 ≤ v k ∧ v k ≤ 17592186044416) :
    Calls Try.prog 71 #[.agg #[.slice (some ⟨b, off, none⟩) n c], .slice a1 n c1] w fun e w' => ∃ g, e = .returned (.slice (some ⟨g, 0, none⟩) n n) ∧ w.heap.size ≤ g ∧ RowI w' 2 g n (nxZ n f v) ∧ Below w.heap.size w w' := by
  have hmk := run_make_row' (P := Try.prog) 26 2 (.int .i64 0) 8 Try.underlying26 infoI64 rfl .i64 .i64 n (by omega) (by omega)
  obtain ⟨bx, ox, rfl, hbx, hcx⟩ := h1.open h0
  have H := Lib.hid h
  have HX := Lib.hid hcx
  have HF := Lib.hid hf
  have HV := Lib.hid hv
  clear h h1 hf hv hcx
  obtain ⟨w1, hw1⟩ : ∃ W, W = w.alloc (.cells #[.slice (some ⟨b, off, none⟩) n c] 29) := ⟨_, rfl⟩
  have HWe := Lib.hid hw1
  have HT1 := Lib.hid (show Below w.heap.size w w1 by rw [hw1]; exact below_alloc w _)
  have hs1 : w.heap.size < w1.heap.size := by rw [hw1]; simp
  have HS2 := Lib.hid (show w1.heap.size = w.heap.size + 1 by rw [hw1]; simp)
  have E0 := Lib.hid (show w1.cell? ⟨w.heap.size, 0, none⟩ = some (.slice (some ⟨b, off, none⟩) n c) by rw [hw1]; exact cell_box _ _ _)
  clear hw1
  go_enter Try.func71, Try.ntmps71
  go_wp2_with fail
  have Hmk := Lib.hid hmk
  clear hmk
  go_loopw [6] (fun x wr => ∃ i : Nat, i ≤ n ∧ x = .int .i64 i ∧ Below w1.heap.size w1 wr ∧ RowI wr 2 (w.heap.size + 1) n (nxA n f v i)) (fun x _ => n - (intOf x).toNat)
  case atStart =>
    refine ⟨0, by omega, rfl, by rw [HWe.out]; exact below_alloc _ _, ?_⟩
    have := RowB_of_rowIs (World.rowIs_made (w.alloc (.cells #[.slice (some ⟨b, off, none⟩) n c] 29)) (.int .i64 0) n 2)
    simp only [World.size_alloc] at this
    exact this.congr (fun k _ => rfl)
  case round =>
    obtain ⟨i, hi, rfl, hbl, hrow⟩ := hrel
    have HB := Lib.hid hbl
    have HR := Lib.hid hrow
    clear hbl hrow
    by_cases hin : i < n
    · go_wp2_with fail
      go_loopw [7] (fun x wr => ∃ j : Nat, j ≤ n ∧ x = .int .i64 j ∧ Below w1.heap.size w1 wr ∧ RowI wr 2 (w.heap.size + 1) n (fun q => if q < j then nxA n f v (i + 1) q else nxA n f v i q)) (fun x _ => n - (intOf x).toNat)
      case atStart => exact ⟨0, by omega, rfl, HB.out, HR.out.congr (fun q _ => rfl)⟩
      case round =>
        obtain ⟨j, hj, rfl, hbl, hrow⟩ := hrel
        have HB := Lib.hid hbl
        have HR := Lib.hid hrow
        clear hbl hrow
        by_cases hjn : j < n
        · obtain ⟨wo, hwo⟩ : ∃ v, v = wr := ⟨_, rfl⟩
          subst hwo
          go_wp2_with fail
          go_loopw [8] (fun x wr => ∃ k : Nat, k ≤ n ∧ x = .int .i64 k ∧ Below w1.heap.size w1 wr ∧ RowI wr 2 (w.heap.size + 1) n (fun q => if q = j then nxA n f v i j + sumZ (fun l => f i j l * v l) k else if q < j then nxA n f v (i + 1) q else nxA n f v i q)) (fun x _ => n - (intOf x).toNat)
          case atStart => exact ⟨0, by omega, rfl, HB.out, HR.out.congr fun q _ => by
            by_cases e : q = j
            · subst e; simp only [if_pos, if_neg (show ¬ q < q by omega), sumZ]; rw [Int.add_zero]
            · simp only [if_neg e]⟩
          case round =>
            obtain ⟨k, hk, rfl, hbl, hrow⟩ := hrel
            have HB4 := Lib.hid hbl
            have HR4 := Lib.hid hrow
            have HT4 := Lib.hid (show Below w.heap.size w wr from HT1.out.trans (hbl.mono (by omega)))
            clear hbl hrow
            by_cases hkn : k < n
            · have HC := Lib.hid (H.out.below HT4.out)
              have e0 : wr.cell? ⟨w.heap.size, 0, none⟩ = some (.slice (some ⟨b, off, none⟩) n c) := by rw [HB4.out.cell (p := ⟨w.heap.size, 0, none⟩) hs1]; exact E0.out
              have e1 : wr.cell? ⟨bx, ox + k, none⟩ = some (.int .i64 (v k)) := by rw [HT4.out.cell (p := ⟨bx, ox + k, none⟩) hbx]; exact HX.out k hkn
              have e3 := (HC.out.row i hin).1
              have e4 := (HC.out.col i j hin hjn).1
              have e5 := HC.out.num i j k hin hjn hkn
              have e6 : wr.cell? ⟨w.heap.size + 1, j, none⟩ = some (.int .i64 (nxA n f v i j + sumZ (fun l => f i j l * v l) k)) := by
                have := RowB.cell HR4.out hjn
                simpa using this
              have e7 := RowB.frozen HR4.out j
              have q1 := nxA_bd hn HF.out HV.out hi hjn
              have q2 := (row_bd hn HF.out HV.out hin hjn).1 k hkn
              have q3 := sumZ_bd (g := fun l => f i j l * v l) (n := k) (B := 20000000000000000) (fun l hl => (row_bd hn HF.out HV.out hin hjn).1 l (by omega))
              have q4 : (k : Int) * 20000000000000000 ≤ 320000000000000000 := by omega
              have HNx := Lib.hid (show nxA n f v i j + sumZ (fun l => f i j l * v l) (k + 1) = nxA n f v i j + sumZ (fun l => f i j l * v l) k + f i j k * v k by simp only [sumZ]; omega)
              obtain ⟨S, hS⟩ : ∃ S, S = nxA n f v i j + sumZ (fun l => f i j l * v l) k := ⟨_, rfl⟩
              rw [← hS] at e6 HNx
              have q5 : 0 ≤ S ∧ S ≤ 4900000000000000000 := by omega
              clear q1 q3 q4
              have ES := Lib.hid hS
              obtain ⟨vk, hvk⟩ : ∃ x, x = v k := ⟨_, rfl⟩
              rw [← hvk] at e1 q2 HNx
              obtain ⟨fk, hfk⟩ : ∃ x, x = f i j k := ⟨_, rfl⟩
              rw [← hfk] at e5 q2 HNx
              clear hS hvk hfk
              have f1 : IntKind.i64.wrap (fk * vk) = fk * vk := IntWalk.i64_in _ (by omega)
              have f2 : IntKind.i64.wrap (S + fk * vk) = S + fk * vk := IntWalk.i64_in _ (by omega)
              clear q2 q5
              generalize B i = b3 at *
              generalize O i = o3 at *
              generalize C i = c3 at *
              generalize B2 i j = b4 at *
              generalize O2 i j = o4 at *
              generalize C2 i j = c4 at *
              go_wp2_with fail
              go_still_tail 24, (by kernel_rfl)
              change wpList _ _ _ _ _ wr.drew
              have HBq := Lib.hid (show Below w1.heap.size w1 wr.drew from HB4.out.drew)
              have HRq := Lib.hid (show RowI wr.drew 2 (w.heap.size + 1) n _ from HR4.out)
              have d6 : wr.drew.cell? ⟨w.heap.size + 1, j, none⟩ = some (.int .i64 S) := e6
              have d7 : wr.drew.frozen? ⟨w.heap.size + 1, j, none⟩ = false := e7
              obtain ⟨wq, hwq⟩ : ∃ v, v = wr.drew := ⟨_, rfl⟩
              rw [← hwq] at HBq HRq d6 d7 ⊢
              clear hwq e0 e1 e3 e4 e5 e6 e7 f1 f2
              go_wp2_with fail
              have HR5 := Lib.hid ((RowI.set HRq.out j (S + fk * vk)).congr (g := fun q => if q = j then nxA n f v i j + sumZ (fun l => f i j l * v l) (k + 1) else if q < j then nxA n f v (i + 1) q else nxA n f v i q) fun q hq => by
                by_cases e : q = j
                · simp only [if_pos e]; rw [HNx.out]
                · simp only [if_neg e])
              exact ⟨⟨k + 1, by omega, by go_num, HBq.out.setCell (by rw [HS2.out]; exact Nat.le_refl _) _, HR5.out⟩, by simp [intOf]; omega⟩
            · obtain rfl : k = n := by omega
              have HR5 := Lib.hid (HR4.out.congr (g := fun q => if q < j + 1 then nxA k f v (i + 1) q else nxA k f v i q) fun q hq => by
                by_cases e : q = j
                · subst e; simp only [if_pos, if_pos (show q < q + 1 by omega)]; rfl
                · simp only [if_neg e]
                  by_cases e' : q < j
                  · rw [if_pos e', if_pos (by omega)]
                  · rw [if_neg e', if_neg (by omega)])
              go_wp2_with fail
              exact ⟨⟨j + 1, by omega, by go_num, HB4.out, HR5.out⟩, by simp [intOf]; omega⟩
        · obtain rfl : j = n := by omega
          have HR5 := Lib.hid (HR.out.congr (g := nxA j f v (i + 1)) fun q hq => if_pos hq)
          go_wp2_with fail
          exact ⟨⟨i + 1, by omega, by go_num, HB.out, HR5.out⟩, by simp [intOf]; omega⟩
    · obtain rfl : i = n := by omega
      have HR5 := Lib.hid (HR.out.congr (g := nxZ i f v) fun q hq => rfl)
      have HT := Lib.hid (show Below w.heap.size w wr from HT1.out.trans (HB.out.mono (by omega)))
      go_wp2_with fail
      go_ret
      exact ⟨w.heap.size + 1, rfl, by omega, HR5.out, HT.out⟩
end Go.Proofs.Ytbbgmfahdpimfaa
