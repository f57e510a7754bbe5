/- The ends of rows; the inverse (program). -/
import Derived.Test.YtaffdoihmalilaaBse
namespace Go.Proofs.Ytaffdoihmalilaa
open Go.RowKit
set_option linter.unusedSimpArgs false
set_option maxHeartbeats 2000000 in
set_option maxRecDepth 100000 in
theorem cutFrom_f (b lo n m k cp : Nat) (C G : Nat → Nat) (f : Nat → Nat → Int) (w : World) (h : MatB w 85 77 lo b n (fun _ => m) C G f) (hk : k < m) (hn : n ≤ 1000) (_hm : m ≤ 2000) :
    Calls Try.prog 136 #[.slice (some ⟨b, 0, none⟩) n cp, .int .i64 k] w fun e w' => e = .returned (.slice (some ⟨w.heap.size, 0, none⟩) n n) ∧ RdM w' (some ⟨w.heap.size, 0, none⟩) n (fun _ => m - k) (fun i j => f i (k + j)) ∧ Below w.heap.size w w' := by
  have hmk := run_make_row' (P := Try.prog) 74 85 (.slice none 0 0) 24 Try.underlying74 infoNums rfl .i64 .i64 n (by omega) (by omega)
  have H := Lib.hid h
  clear h
  go_enter Try.func136, Try.ntmps136
  go_wp2_with fail
  have Hmk := Lib.hid hmk
  clear hmk
  go_loopw [13] (fun i wr => ∃ (q : Nat), q ≤ n ∧ i = .int .i64 q ∧ RowB wr 85 w.heap.size n (fun j => if j < q then .slice (some ⟨G j, k, none⟩) (m - k) (m - k) else .slice none 0 0) ∧ Below w.heap.size w wr) (fun i _ => n - (intOf i).toNat)
  case atStart => exact ⟨0, by omega, rfl, (RowB_of_rowIs (World.rowIs_made w (.slice none 0 0) n 85)).congr (fun j _ => rfl), below_alloc _ _⟩
  case round =>
    obtain ⟨q, hq, rfl, hr, hb⟩ := hrel
    have HR := Lib.hid hr
    have HB := Lib.hid hb
    clear hr hb
    by_cases hlt : q < n
    · have e1 : wr.cell? ⟨b, q, none⟩ = some (.slice (some ⟨G q, 0, none⟩) m (C q)) := by
        rw [HB.out.cell (p := ⟨b, q, none⟩) H.out.outer.lt]; exact RowB.cell H.out.outer hlt
      have hC1 := (H.out.row q hlt).2.1
      have hC2 := (H.out.row q hlt).2.2.1
      unfold maxLen at hC2
      have hcd := RowB.cell HR.out hlt
      have hfd := RowB.frozen HR.out q
      have HS := Lib.hid (((HR.out.set q (.slice (some ⟨G q, k, none⟩) (m - k) (m - k))).congr (g := fun j => if j < q + 1 then .slice (some ⟨G j, k, none⟩) (m - k) (m - k) else .slice none 0 0) fun j hj => by
        by_cases e : j = q
        · subst e; simp only [if_pos, if_pos (show j < j + 1 by omega)]
        · simp only [if_neg e]
          by_cases e' : j < q
          · rw [if_pos e', if_pos (by omega)]
          · rw [if_neg e', if_neg (by omega)]))
      generalize C q = cq at *
      obtain ⟨gq, hgq⟩ : ∃ x, x = G q := ⟨_, rfl⟩
      rw [← hgq] at e1 HS
      clear hgq
      go_wp2_with fail
      exact ⟨⟨q + 1, by omega, by go_num, HS.out, HB.out.setCell (Nat.le_refl _) _⟩, by simp [intOf]; omega⟩
    · obtain rfl : q = n := by omega
      go_wp2_with fail
      go_ret
      refine ⟨rfl, Or.inr ⟨w.heap.size, 0, fun i => some ⟨G i, k, none⟩, fun _ => m - k, rfl, HR.out.lt, fun i hi => ⟨?_, ?_⟩⟩, HB.out⟩
      · have := RowB.cell HR.out hi
        rw [if_pos hi] at this
        simpa using this
      · have hrow : RowI wr 77 (G i) m (f i) := RowB.below (H.out.row i hi).2.2.2 HB.out (RowB.lt (H.out.row i hi).2.2.2)
        exact Or.inr ⟨G i, k, rfl, RowB.lt hrow, fun j hj => RowB.cell hrow (show k + j < m by have hj' : j < m - k := hj; omega)⟩
def invK (n : Nat) (A : Mat) : Mat := fun i j => (gau n (withUnit n A) (n + n)).1 i (n + j)
theorem join_unit (n : Nat) (A : Mat) (i j : Nat) : joinF n (fun j => vK (A i j)) (fun j => vK (unitK i j)) j = vK (withUnit n A i j) := by
  unfold joinF withUnit unitK
  by_cases h : j < n
  · rw [if_pos h, if_pos h]
  · rw [if_neg h, if_neg h]
    by_cases e : i = j - n
    · show vK (if i = j - n then 1 else 0) = _
      rw [if_pos e, if_pos (by omega)]
    · show vK (if i = j - n then 1 else 0) = _
      rw [if_neg e, if_neg (by omega)]
def InvRes (w : World) (n : Nat) (A : Mat) (e : Ending) (w' : World) : Prop :=
  Below w.heap.size w w' ∧ (((gau n A n).2.1 < n ∧ e = .returned (.tuple #[.slice none 0 0, .bool false])) ∨
    (¬ (gau n A n).2.1 < n ∧ ∃ g, e = .returned (.tuple #[.slice (some ⟨g, 0, none⟩) n n, .bool true]) ∧ RdM w' (some ⟨g, 0, none⟩) n (fun _ => n) (fun i j => vK (invK n A i j))))
set_option maxHeartbeats 2000000 in
set_option maxRecDepth 100000 in
theorem inverse_f (a : Option Addr) (n c : Nat) (A : Mat) (w : World) (h : RdM w a n (fun _ => n) (fun i j => vK (A i j))) (h0 : 0 < n) (hn : n ≤ 100) :
    Calls Try.prog 81 #[.slice a n c] w (InvRes w n A) := by
  have H := Lib.hid h
  have ht := inv_test (A := A) h0
  have HI := Lib.hid ht.1
  have HT := Lib.hid ht.2
  have HV := Lib.hid (fun i j => show (gau n (withUnit n A) (n + n)).1 i (n + j) = invK n A i j from rfl)
  have HB := Lib.hid (fun (b lo cp : Nat) (C G : Nat → Nat) (u : World) (x : MatB u 85 77 lo b n (fun _ => n + n) C G (fun i j => vK ((gau n (withUnit n A) (n + n)).1 i j))) => cutFrom_f b lo n (n + n) n cp C G _ u x (by omega) (by omega) (by omega))
  have HBas := Lib.hid (fun (a : Option Addr) (cp : Nat) (u : World) (x : RdM u a n (fun _ => n + n) (fun i j => vK (withUnit n A i j))) => basis_f a n (n + n) cp (withUnit n A) u x (by omega) (by omega) (by omega))
  rw [ht.1] at HBas
  obtain ⟨z, hz⟩ : ∃ z, z = vK ((gau n (withUnit n A) (n + n)).1 (n - 1) (n - 1)) := ⟨_, rfl⟩
  have HZ := Lib.hid hz
  have hw1 : IntKind.i64.wrap ((n : Int) - 1) = (n : Int) - 1 := IntWalk.i64_in _ (by omega)
  have hw2 : ((n : Int) - 1).toNat = n - 1 := by omega
  clear h ht hz
  go_enter Try.func81, Try.ntmps81
  go_wp2_with fail
  refine (unitMatrix_f n _ h0 (by omega)).mono ?_
  rintro e w1 ⟨b1, c1, C1, G1, y1, y2, rfl, hM, hB⟩
  have HM1 := Lib.hid hM.rd
  have HB1 := Lib.hid hB
  clear hM hB y1 y2
  go_wp2_with fail
  refine (beside_f a _ n n n c c1 _ _ _ (H.out.below HB1.out (Nat.le_refl _)) HM1.out h0 h0 (by omega) (by omega) (by omega)).mono ?_
  rintro e w2 ⟨rfl, ⟨C2, G2, hM⟩, hB⟩
  have HM2 := Lib.hid (hM.rd.congr (L' := fun _ => n + n) (g := fun i j => vK (withUnit n A i j)) (fun _ _ => rfl) (fun i _ j _ => join_unit n A i j))
  have HB2 := Lib.hid (HB1.out.trans (hB.mono HB1.out.size))
  clear hM hB
  go_wp2_with fail
  refine (HBas.out _ _ _ HM2.out).mono ?_
  rintro e w3 ⟨b3, C3, G3, rfl, hM, hB⟩
  have HM3 := Lib.hid hM
  have HB3 := Lib.hid (HB2.out.trans (hB.mono HB2.out.size))
  clear hM hB
  have e1 : w3.cell? ⟨b3, n - 1, none⟩ = some (.slice (some ⟨G3 (n - 1), 0, none⟩) (n + n) (C3 (n - 1))) := RowB.cell HM3.out.outer (by omega)
  have e2 : w3.cell? ⟨G3 (n - 1), n - 1, none⟩ = some (.int .i64 z) := HM3.out.cellAt (by omega) (by show n - 1 < n + n; omega) HZ.out.symm
  have HC := Lib.hid (HB.out b3 _ n C3 G3 w3 HM3.out)
  generalize G3 (n - 1) = g3 at *
  generalize C3 (n - 1) = c3 at *
  by_cases hzz : z = 0
  · have hd : decide (z = 0) = true := by simp [hzz]
    have HR := Lib.hid (HT.out.1 (vK_inj (by rw [← HZ.out]; exact hzz)))
    go_wp2_with fail
    go_ret2
    exact ⟨HB3.out, Or.inl ⟨HR.out, rfl⟩⟩
  · have hd : decide (z = 0) = false := by simp [hzz]
    have HR := Lib.hid (show ¬ (gau n A n).2.1 < n from fun hlt => hzz (by rw [HZ.out, HT.out.2 hlt]; rfl))
    go_wp2_with fail
    refine HC.out.mono ?_
    rintro e w4 ⟨rfl, hM, hB⟩
    have HM4 := Lib.hid (hM.congr (L' := fun _ => n) (g := fun i j => vK (invK n A i j)) (fun _ _ => by omega) (fun i _ j _ => rfl))
    have HB4 := Lib.hid (HB3.out.trans (hB.mono HB3.out.size))
    clear hM hB
    go_wp2_with fail
    go_ret2
    exact ⟨HB4.out, Or.inr ⟨HR.out, _, rfl, HM4.out⟩⟩
theorem cSq_ne' {n : Nat} {L : Nat → Nat} {f : Nat → Nat → Int} (h : sqB n L f = false) : (cSq n L f != 0) = true ∧ (cSq n L f == 0) = false := by
  rcases cSq_no h with ⟨e, _⟩ | ⟨e, _⟩ <;> rw [e] <;> exact ⟨rfl, rfl⟩
def okInv (n : Nat) (L : Nat → Nat) (f : Nat → Nat → Int) : Bool := sqB n L f && decide (¬ (gau n (kM f) n).2.1 < n)
def cInv (n : Nat) (L : Nat → Nat) (f : Nat → Nat → Int) : Int := if sqB n L f = true then (if (gau n (kM f) n).2.1 < n then 5 else 0) else cSq n L f
theorem implInv_f (a : Option Addr) (n c : Nat) (L : Nat → Nat) (f : Nat → Nat → Int) (w : World) (h : RdM w a n L f) (hn : n ≤ 1048576) (hL : ∀ i, i < n → L i ≤ 1048576) :
    Calls Try.prog 21 #[.slice a n c] w (TabRes w (nIf (okInv n L f) n) (fun _ => n) (fun i j => vK (invK n (kM f) i j)) (cInv n L f)) := by
  cases hs : sqB n L f
  · have HE := Lib.hid (readSquare_no a n c L f w h hn hL hs)
    obtain ⟨hne, hne'⟩ := cSq_ne' hs
    have HC := Lib.hid (show cInv n L f = cSq n L f by simp [cInv, hs])
    have HN := Lib.hid (show nIf (okInv n L f) n = 0 by simp [okInv, hs, nIf])
    rw [HC.out, HN.out]
    clear h hL hs
    generalize cSq n L f = cd at *
    go_enter Try.func21, Try.ntmps21
    go_wp2_with fail
    refine HE.out.mono ?_
    rintro e w' ⟨rfl, hB⟩
    have HB := Lib.hid hB
    clear hB
    go_wp2_with fail
    go_ret2
    exact tabRes_err rfl rfl HB.out
  · have HE := Lib.hid (readSquare_yes a n c L f w h hs)
    obtain ⟨-, -, d0, d1, -⟩ := sqB_t hs
    have HS := Lib.hid hs
    clear h hL hs
    go_enter Try.func21, Try.ntmps21
    go_wp2_with fail
    refine HE.out.mono ?_
    rintro e w1 ⟨rfl, hM, hB⟩
    have HM := Lib.hid hM.rd
    have HB := Lib.hid hB
    clear hM hB
    go_wp2_with fail
    refine (inverse_f _ n n (kM f) _ HM.out d0 (by omega)).mono ?_
    rintro e w2 ⟨hB2, ⟨hr, rfl⟩ | ⟨hr, g, rfl, hM2⟩⟩
    · have HB2 := Lib.hid (HB.out.trans (hB2.mono HB.out.size))
      have HC := Lib.hid (show cInv n L f = 5 by simp [cInv, HS.out, hr])
      have HN := Lib.hid (show nIf (okInv n L f) n = 0 by simp [okInv, HS.out, nIf, hr])
      clear hB2 hr
      go_wp2_with fail
      go_ret2
      rw [HC.out, HN.out]
      exact tabRes_err rfl rfl HB2.out
    · have HB2 := Lib.hid (HB.out.trans (hB2.mono HB.out.size))
      have HM2 := Lib.hid hM2
      have HC := Lib.hid (show cInv n L f = 0 by simp [cInv, HS.out, hr])
      have HN := Lib.hid (show nIf (okInv n L f) n = n by simp [okInv, HS.out, nIf, hr])
      clear hB2 hr hM2
      go_wp2_with fail
      refine (integers_f _ n _ (fun _ => n) _ _ HM2.out (by omega) (fun i hi => by omega)).mono ?_
      rintro e w3 ⟨rfl, hM3, hB3, -⟩
      have HM3 := Lib.hid hM3
      have HB3 := Lib.hid (HB2.out.trans (hB3.mono HB2.out.size))
      clear hM3 hB3
      go_wp2_with fail
      go_ret2
      rw [HC.out, HN.out]
      exact ⟨_, _, rfl, own_of_matB (HM3.out.mono HB2.out.size), HB3.out⟩
theorem implInv_f_rows (n : Nat) (L : Nat → Nat) (f : Nat → Nat → Int) : nIf (okInv n L f) n ≤ 64 := by
  unfold nIf
  split
  · rename_i h
    have hh : sqB n L f = true := by simp [okInv] at h; exact h.1
    obtain ⟨-, -, d0, d1, -⟩ := sqB_t hh
    omega
  · omega
theorem implInv_f_cols (n : Nat) (L : Nat → Nat) (f : Nat → Nat → Int) : ∀ i, i < nIf (okInv n L f) n → n ≤ 64 := by
  unfold nIf
  split
  · rename_i h
    have hh : sqB n L f = true := by simp [okInv] at h; exact h.1
    obtain ⟨-, -, d0, d1, -⟩ := sqB_t hh
    omega
  · intro i hi; omega
end Go.Proofs.Ytaffdoihmalilaa
