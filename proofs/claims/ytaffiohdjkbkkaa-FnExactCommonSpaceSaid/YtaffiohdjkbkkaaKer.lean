/- The kernel (program). -/
import Derived.Test.YtaffiohdjkbkkaaInv
namespace Go.Proofs.Ytaffiohdjkbkkaa
open Go.RowKit
set_option linter.unusedSimpArgs false
/-- the ends of rows, wherever they lie -/
structure EndsAt (w : World) (b off n m : Nat) (C G : Nat → Nat) (f : Nat → Nat → Int) : Prop where
  lt : b < w.heap.size
  cell : ∀ i, i < n → w.cell? ⟨b, off + i, none⟩ = some (.slice (some ⟨G i, 0, none⟩) m (C i))
  row : ∀ i, i < n → m ≤ C i ∧ C i ≤ maxLen ∧ RowI w 123 (G i) m (f i)
set_option maxHeartbeats 2000000 in
set_option maxRecDepth 100000 in
theorem cutFromA_f (b off n m k cp : Nat) (C G : Nat → Nat) (f : Nat → Nat → Int) (w : World) (h : EndsAt w b off n m C G f) (hk : k < m) (hn : n ≤ 1000) (_hm : m ≤ 2000) :
    Calls Try.prog 172 #[.slice (some ⟨b, off, none⟩) n cp, .int .i64 k] w fun e w' => e = .returned (.slice (some ⟨w.heap.size, 0, none⟩) n n) ∧ RdM w' (some ⟨w.heap.size, 0, none⟩) n (fun _ => m - k) (fun i j => f i (k + j)) ∧ Below w.heap.size w w' := by
  have hmk := run_make_row' (P := Try.prog) 78 80 (.slice none 0 0) 24 Try.underlying78 infoNums rfl .i64 .i64 n (by omega) (by omega)
  have H := Lib.hid h
  clear h
  go_enter Try.func172, Try.ntmps172
  go_wp2_with fail
  have Hmk := Lib.hid hmk
  clear hmk
  go_loopw [13] (fun i wr => ∃ (q : Nat), q ≤ n ∧ i = .int .i64 q ∧ RowB wr 80 w.heap.size n (fun j => if j < q then .slice (some ⟨G j, k, none⟩) (m - k) (m - k) else .slice none 0 0) ∧ Below w.heap.size w wr) (fun i _ => n - (intOf i).toNat)
  case atStart => exact ⟨0, by omega, rfl, (RowB_of_rowIs (World.rowIs_made w (.slice none 0 0) n 80)).congr (fun j _ => rfl), below_alloc _ _⟩
  case round =>
    obtain ⟨q, hq, rfl, hr, hb⟩ := hrel
    have HR := Lib.hid hr
    have HB := Lib.hid hb
    clear hr hb
    by_cases hlt : q < n
    · have e1 : wr.cell? ⟨b, off + q, none⟩ = some (.slice (some ⟨G q, 0, none⟩) m (C q)) := by
        rw [HB.out.cell (p := ⟨b, off + q, none⟩) H.out.lt]; exact H.out.cell q hlt
      have hC1 := (H.out.row q hlt).1
      have hC2 := (H.out.row q hlt).2.1
      unfold maxLen at hC2
      have hcd := RowB.cell HR.out hlt
      have hfd := RowB.frozen HR.out q
      have HS := Lib.hid (((HR.out.set q (.slice (some ⟨G q, k, none⟩) (m - k) (m - k))).congr (g := fun j => if j < q + 1 then .slice (some ⟨G j, k, none⟩) (m - k) (m - k) else .slice none 0 0) fun j hj => by
        by_cases e : j = q
        · subst e; simp only [if_pos, if_pos (show j < j + 1 by omega)]
        · simp only [if_neg e]
          by_cases e' : j < q
          · rw [if_pos e', if_pos (by omega)]
          · rw [if_neg e', if_neg (by omega)]))
      generalize C q = cq at *
      obtain ⟨gq, hgq⟩ : ∃ x, x = G q := ⟨_, rfl⟩
      rw [← hgq] at e1 HS
      clear hgq
      go_wp2_with fail
      exact ⟨⟨q + 1, by omega, by go_num, HS.out, HB.out.setCell (Nat.le_refl _) _⟩, by simp [intOf]; omega⟩
    · obtain rfl : q = n := by omega
      go_wp2_with fail
      go_ret
      refine ⟨rfl, Or.inr ⟨w.heap.size, 0, fun i => some ⟨G i, k, none⟩, fun _ => m - k, rfl, HR.out.lt, fun i hi => ⟨?_, ?_⟩⟩, HB.out⟩
      · have := RowB.cell HR.out hi
        rw [if_pos hi] at this
        simpa using this
      · have hrow : RowI wr 123 (G i) m (f i) := RowB.below (H.out.row i hi).2.2 HB.out (RowB.lt (H.out.row i hi).2.2)
        exact Or.inr ⟨G i, k, rfl, RowB.lt hrow, fun j hj => RowB.cell hrow (show k + j < m by have hj' : j < m - k := hj; omega)⟩
theorem place1_f (x : Int) (w : World) : Calls Try.prog 196 #[.int .i64 x] w fun e w' => e = .returned (.bool (decide (x ≠ 0))) ∧ w = w' := by
  by_cases h : x = 0
  · subst h
    go_enter Try.func196, Try.ntmps196
    go_wp2_with fail
    go_ret
    exact ⟨rfl, rfl⟩
  · have hd : (x != 0) = true := by simpa using h
    have HF := Lib.hid (show true = decide (x ≠ 0) by simp [h])
    go_enter Try.func196, Try.ntmps196
    go_wp2_with fail
    go_ret
    exact ⟨ret_bool HF.out, rfl⟩
theorem indexFirst_f (a : Option Addr) (n c p : Nat) (x : Nat → K) (w : World) (h : RdR w a n (fun j => vK (x j))) (hp : p < n) (h1 : x p ≠ 0) (h2 : ∀ j, j < p → x j = 0) (hn : n ≤ 9000000000) :
    Calls Try.prog 195 #[.slice a n c, .func (.func 196) #[] #[]] w fun e w' => e = .returned (.int .i64 p) ∧ w = w' := by
  obtain ⟨b, off, rfl, hb, hc⟩ := h.open (by omega)
  have HC := Lib.hid hc
  have H1 := Lib.hid h1
  have H2 := Lib.hid h2
  clear h hc h1 h2
  go_enter Try.func195, Try.ntmps195
  go_wp2_with fail
  go_loop [8] (fun i => ∃ k : Nat, k ≤ p ∧ i = .int .i64 k) (fun i => n - (intOf i).toNat)
  case atStart => exact ⟨0, by omega, rfl⟩
  case round =>
    obtain ⟨k, hk, rfl⟩ := hrel
    have hcs := HC.out k (by omega)
    by_cases hlt : k < p
    · have HZ := Lib.hid (show vK (x k) = 0 by rw [H2.out k hlt]; rfl)
      rw [HZ.out] at hcs
      go_wp2_with (go_at_call 196; refine (place1_f _ _).mono ?_; rintro e w' ⟨rfl, rfl⟩)
      go_round
      case rel => exact ⟨k + 1, by omega, by go_num⟩
      case measure => simp [intOf]; omega
    · obtain rfl : k = p := by omega
      obtain ⟨z, hz⟩ : ∃ z, z = vK (x k) := ⟨_, rfl⟩
      rw [← hz] at hcs
      have hd : decide (z ≠ 0) = true := by simp; rw [hz]; exact vK_ne H1.out
      clear hz
      go_wp2_with (go_at_call 196; refine (place1_f _ _).mono ?_; rintro e w' ⟨rfl, rfl⟩; rw [hd])
      go_ret
      exact ⟨rfl, rfl⟩
theorem firstPlace_f (a : Option Addr) (n c p : Nat) (x : Nat → K) (w : World) (h : RdR w a n (fun j => vK (x j))) (hp : p < n) (h1 : x p ≠ 0) (h2 : ∀ j, j < p → x j = 0) (hn : n ≤ 9000000000) :
    Calls Try.prog 171 #[.slice a n c] w fun e w' => e = .returned (.int .i64 p) ∧ w = w' := by
  have H := Lib.hid (indexFirst_f a n c p x w h hp h1 h2 hn)
  clear h h1 h2
  go_enter Try.func171, Try.ntmps171
  go_wp2_with fail
  refine H.out.mono ?_
  rintro e w1 ⟨rfl, rfl⟩
  go_wp2_with fail
  go_ret
  exact ⟨rfl, rfl⟩
theorem join_beside (n : Nat) (A : Mat) (i j : Nat) : joinF n (fun j => vK (A j i)) (fun j => vK (unitK i j)) j = vK (besideUnit n A i j) := by
  unfold joinF besideUnit unitK
  by_cases h : j < n
  · rw [if_pos h, if_pos h]
  · rw [if_neg h, if_neg h]
    by_cases e : i = j - n
    · show vK (if i = j - n then 1 else 0) = _
      rw [if_pos e, if_pos (by omega)]
    · show vK (if i = j - n then 1 else 0) = _
      rw [if_neg e, if_neg (by omega)]
def KerRes (w : World) (n m : Nat) (A : Mat) (e : Ending) (w' : World) : Prop :=
  ∃ q Z g, e = .returned (.slice (some ⟨g, 0, none⟩) q q) ∧ q ≤ m ∧ IsKer n m A q Z ∧ RdM w' (some ⟨g, 0, none⟩) q (fun _ => m) (fun i j => vK (Z i j)) ∧ Below w.heap.size w w'
set_option maxHeartbeats 4000000 in
set_option maxRecDepth 100000 in
theorem kernel_f (a : Option Addr) (n m c : Nat) (A : Mat) (w : World) (h : RdM w a n (fun _ => m) (fun i j => vK (A i j))) (h0 : 0 < n) (hm0 : 0 < m) (hn : n ≤ 300) (hm : m ≤ 100) :
    Calls Try.prog 120 #[.slice a n c] w (KerRes w n m A) := by
  have H := Lib.hid h
  obtain ⟨p, hred, hto, hfrom⟩ := gau_basis m (n + m) (besideUnit n A)
  have HRk := Lib.hid (gau_rank m (besideUnit n A) (n + m)).2
  have HBas := Lib.hid (fun (a : Option Addr) (cp : Nat) (u : World) (x : RdM u a m (fun _ => n + m) (fun i j => vK (besideUnit n A i j))) => basis_f a m (n + m) cp (besideUnit n A) u x (by omega) (by omega) (by omega))
  obtain ⟨R, hR⟩ : ∃ R, R = (gau m (besideUnit n A) (n + m)).2.1 := ⟨_, rfl⟩
  obtain ⟨B, hB⟩ : ∃ B, B = (gau m (besideUnit n A) (n + m)).1 := ⟨_, rfl⟩
  rw [← hR, ← hB] at hred HBas
  rw [← hR] at HRk
  simp only [← hR, ← hB] at hto hfrom
  have HK := Lib.hid (fun (c : Nat) (hc : c ≤ R) (h1 : ∀ i, i < c → p i < n) (h2 : ∀ i, c ≤ i → i < R → n ≤ p i) => ker_cut hred hto hfrom hc h1 h2)
  have HD := Lib.hid hred
  have hRm := HRk.out
  clear h hto hfrom hR hB hred HRk
  go_enter Try.func120, Try.ntmps120
  go_wp2_with fail
  refine (transposed_f a n m c _ _ H.out h0 (by omega) (by omega)).mono ?_
  rintro e w1 ⟨b0, b1, rfl, hM, hB⟩
  have HM1 := Lib.hid hM.rd
  have HB1 := Lib.hid hB
  clear hM hB
  go_wp2_with fail
  refine (columns_f a n m c _ _ (H.out.below HB1.out (Nat.le_refl _)) h0 (by omega)).mono ?_
  rintro e w1' ⟨rfl, rfl⟩
  go_wp2_with fail
  refine (unitMatrix_f m _ hm0 (by omega)).mono ?_
  rintro e w2 ⟨b2, c2, C2, G2, y1, y2, rfl, hM, hB⟩
  have HU := Lib.hid hM.rd
  have HM2 := Lib.hid (HM1.out.below hB (Nat.le_refl _))
  have HB2 := Lib.hid (HB1.out.trans (hB.mono HB1.out.size))
  clear hM hB y1 y2
  go_wp2_with fail
  refine (beside_f _ _ m n m m c2 _ _ _ HM2.out HU.out h0 hm0 (by omega) (by omega) (by omega)).mono ?_
  rintro e w3 ⟨rfl, ⟨C3, G3, hM⟩, hB⟩
  have HM3 := Lib.hid (hM.rd.congr (L' := fun _ => n + m) (g := fun i j => vK (besideUnit n A i j)) (fun _ _ => rfl) (fun i _ j _ => join_beside n A i j))
  have HB3 := Lib.hid (HB2.out.trans (hB.mono HB2.out.size))
  clear hM hB
  go_wp2_with fail
  refine (HBas.out _ _ _ HM3.out).mono ?_
  rintro e w4 ⟨b4, C4, G4, rfl, hM, hB⟩
  have HM4 := Lib.hid hM
  have HB4 := Lib.hid (HB3.out.trans (hB.mono HB3.out.size))
  clear hM hB HBas HM1 HM2 HM3 HU
  go_wp2_with fail
  go_loopw [4] (fun v wr => ∃ t : Nat, t ≤ R ∧ v = .int .i64 t ∧ wr = w4 ∧ ∀ i, i < t → p i < n) (fun v _ => R - (intOf v).toNat)
  case atStart => exact ⟨0, by omega, rfl, rfl, fun i hi => absurd hi (by omega)⟩
  case round =>
    obtain ⟨t, ht, rfl, rfl, hpt⟩ := hrel
    have HP := Lib.hid hpt
    clear hpt
    by_cases hlt : t < R
    · have e1 : wr.cell? ⟨b4, t, none⟩ = some (.slice (some ⟨G4 t, 0, none⟩) (n + m) (C4 t)) := RowB.cell HM4.out.outer (by omega)
      have HF := Lib.hid (firstPlace_f (some ⟨G4 t, 0, none⟩) (n + m) (C4 t) (p t) (B t) wr (RowI.rd (HM4.out.row t (by omega)).2.2.2) (HD.out.lt t hlt) (by rw [HD.out.one t hlt]; decide) (fun j hj => HD.out.before t j hlt hj) (by omega))
      have hplt := HD.out.lt t hlt
      obtain ⟨pt, hpe⟩ : ∃ x, x = p t := ⟨_, rfl⟩
      rw [← hpe] at HF hplt
      have HPE := Lib.hid hpe
      clear hpe
      generalize C4 t = ct at *
      obtain ⟨gt, hgt⟩ : ∃ x, x = G4 t := ⟨_, rfl⟩
      rw [← hgt] at HF e1
      clear hgt
      by_cases hpn : pt < n
      · go_wp2_with (go_at_call 171; refine HF.out.mono ?_; rintro e w' ⟨rfl, rfl⟩)
        exact ⟨⟨t + 1, by omega, by go_num, trivial, fun i hi => by
          by_cases e : i = t
          · rw [e, ← HPE.out]; exact hpn
          · exact HP.out i (by omega)⟩, by simp [intOf]; omega⟩
      · have HX := Lib.hid (HK.out t ht HP.out (fun i h1 h2 => by
          by_cases e : i = t
          · rw [e, ← HPE.out]; omega
          · have := HD.out.inc t i (by omega) h2; rw [← HPE.out] at this; omega))
        have hRt : R - t ≠ 0 := by omega
        have HE := Lib.hid (show EndsAt wr b4 t (R - t) (n + m) (fun i => C4 (t + i)) (fun i => G4 (t + i)) (fun i j => vK (B (t + i) j)) from
          ⟨HM4.out.outer.lt, fun i hi => RowB.cell HM4.out.outer (by omega), fun i hi => (HM4.out.row (t + i) (by omega)).2⟩)
        go_wp2_with (go_at_call 171; refine HF.out.mono ?_; rintro e w' ⟨rfl, rfl⟩)
        refine (cutFromA_f _ _ _ (n + m) n _ _ _ _ _ HE.out (by omega) (by omega) (by omega)).mono ?_
        rintro e w5 ⟨rfl, hM, hB⟩
        have HM5 := Lib.hid (hM.congr (L' := fun _ => m) (g := fun i j => vK (B (t + i) (n + j))) (fun _ _ => by omega) (fun i _ j _ => rfl))
        have HB5 := Lib.hid (HB4.out.trans (hB.mono HB4.out.size))
        clear hM hB
        go_wp2_with fail
        go_ret
        exact ⟨R - t, _, _, rfl, by omega, HX.out, HM5.out, HB5.out⟩
    · obtain rfl : t = R := by omega
      have HX := Lib.hid (HK.out t ht HP.out (fun i h1 h2 => by omega))
      have HE := Lib.hid (show EndsAt wr b4 0 0 (n + m) (fun i => 0) (fun i => 0) (fun i j => 0) from
        ⟨HM4.out.outer.lt, fun i hi => absurd hi (by omega), fun i hi => absurd hi (by omega)⟩)
      go_wp2_with fail
      refine (cutFromA_f _ _ _ (n + m) n _ _ _ _ _ HE.out (by omega) (by omega) (by omega)).mono ?_
      rintro e w5 ⟨rfl, hM, hB⟩
      have HB5 := Lib.hid (HB4.out.trans (hB.mono HB4.out.size))
      clear hM hB
      go_wp2_with fail
      go_ret
      rw [Nat.sub_self] at HX
      exact ⟨0, _, _, rfl, by omega, HX.out, Or.inl rfl, HB5.out⟩
end Go.Proofs.Ytaffiohdjkbkkaa
