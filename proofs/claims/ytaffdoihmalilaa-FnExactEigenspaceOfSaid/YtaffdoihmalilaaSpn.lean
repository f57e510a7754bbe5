/- SpanBasis and RankOf of both. -/
import Derived.Test.YtaffdoihmalilaaRdu
namespace Go.Proofs.Ytaffdoihmalilaa
open Go.RowKit
/-- the length of the vectors of a list, 1 if there are none -/
def mSp (n : Nat) (L : Nat → Nat) : Nat := if n = 0 then 1 else L 0
theorem vec_dims {n : Nat} {L : Nat → Nat} {f : Nat → Nat → Int} (h : vecB n L f = true) : n ≤ 16 ∧ 0 < mSp n L ∧ mSp n L ≤ 16 ∧ (∀ i, i < n → L i = mSp n L) ∧ ∀ i j, i < n → j < mSp n L → numB (f i j) = true := by
  obtain ⟨h1, h2⟩ := vecB_t h
  unfold mSp
  by_cases e : n = 0
  · rw [if_pos e]
    exact ⟨h1, by omega, by omega, fun i hi => by omega, fun i j hi => by omega⟩
  · rw [if_neg e]
    have h0 := h2 0 (by omega)
    refine ⟨h1, by omega, by omega, fun i hi => (h2 i hi).2.2.1, fun i j hi hj => ?_⟩
    obtain ⟨_, _, e', a⟩ := h2 i hi
    exact allB_t a j (by omega)
theorem RdM.vec {w : World} {a : Option Addr} {n : Nat} {L : Nat → Nat} {f : Nat → Nat → Int} (h : RdM w a n L f) (hv : vecB n L f = true) : RdM w a n (fun _ => mSp n L) (fun i j => vK (kM f i j)) := by
  obtain ⟨d1, d2, d3, d4, d5⟩ := vec_dims hv
  exact RdM.toK (h.congr (fun i hi => d4 i hi) (fun _ _ _ _ => rfl)) d5
theorem implSpan_f (a : Option Addr) (n c : Nat) (L : Nat → Nat) (f : Nat → Nat → Int) (w : World) (h : RdM w a n L f) (hn : n ≤ 1048576) (hL : ∀ i, i < n → L i ≤ 1048576) :
    Calls Try.prog 53 #[.slice a n c] w (TabRes w (nIf (vecB n L f) (gau n (kM f) (mSp n L)).2.1) (fun _ => mSp n L) (fun i j => vK ((gau n (kM f) (mSp n L)).1 i j)) (cMat (vecB n L f))) := by
  have HV := Lib.hid (isVectors_f a n c L f w h (by omega) (fun i hi => by have := hL i hi; omega))
  cases hv : vecB n L f
  · rw [hv] at HV
    clear h hL hv
    go_enter Try.func53, Try.ntmps53
    go_wp2_with fail
    refine HV.out.mono ?_
    rintro e w' ⟨rfl, rfl⟩
    go_wp2_with fail
    go_ret2
    exact tabRes_err rfl rfl (Below.refl _ _)
  · obtain ⟨d1, d2, d3, -, -⟩ := vec_dims hv
    have HR := Lib.hid (h.vec hv)
    rw [hv] at HV
    clear h hL hv
    have hrk := (gau_rank n (kM f) (mSp n L)).2
    show Calls Try.prog 53 #[.slice a n c] w (TabRes w (gau n (kM f) (mSp n L)).2.1 (fun _ => mSp n L) (fun i j => vK ((gau n (kM f) (mSp n L)).1 i j)) 0)
    generalize mSp n L = m at *
    go_enter Try.func53, Try.ntmps53
    go_wp2_with fail
    refine HV.out.mono ?_
    rintro e w' ⟨rfl, rfl⟩
    go_wp2_with fail
    refine (matrixOf_f _ n _ (fun _ => m) _ _ HR.out (by omega) (fun i hi => by omega)).mono ?_
    rintro e w1 ⟨rfl, hM, hB, -⟩
    have HM := Lib.hid hM.rd
    have HB := Lib.hid hB
    clear hM hB
    go_wp2_with fail
    refine (basis_f _ n m _ (kM f) _ HM.out d2 (by omega) (by omega)).mono ?_
    rintro e w2 ⟨b2, C2, G2, rfl, hM2, hB2⟩
    have HM2 := Lib.hid (hM2.rd.le hrk)
    have HB2 := Lib.hid (HB.out.trans (hB2.mono HB.out.size))
    clear hM2 hB2
    go_wp2_with fail
    refine (integers_f _ (gau n (kM f) m).2.1 _ (fun _ => m) _ _ HM2.out (by omega) (fun i hi => by omega)).mono ?_
    rintro e w3 ⟨rfl, hM3, hB3, -⟩
    have HM3 := Lib.hid hM3
    have HB3 := Lib.hid (HB2.out.trans (hB3.mono HB2.out.size))
    clear hM3 hB3
    go_wp2_with fail
    go_ret2
    exact ⟨_, _, rfl, own_of_matB (HM3.out.mono HB2.out.size), HB3.out⟩
theorem implSpan_f_rows (n : Nat) (L : Nat → Nat) (f : Nat → Nat → Int) : nIf (vecB n L f) (gau n (kM f) (mSp n L)).2.1 ≤ 64 := by
  unfold nIf
  split
  · rename_i h; have := vec_dims h; have := (gau_rank n (kM f) (mSp n L)).2; omega
  · omega
theorem implSpan_f_cols (n : Nat) (L : Nat → Nat) (f : Nat → Nat → Int) : ∀ i, i < nIf (vecB n L f) (gau n (kM f) (mSp n L)).2.1 → mSp n L ≤ 64 := by
  unfold nIf
  split
  · rename_i h; have := vec_dims h; omega
  · intro i hi; omega
theorem implRank_f (a : Option Addr) (n c : Nat) (L : Nat → Nat) (f : Nat → Nat → Int) (w : World) (h : RdM w a n L f) (hn : n ≤ 1048576) (hL : ∀ i, i < n → L i ≤ 1048576) :
    Calls Try.prog 52 #[.slice a n c] w (IntRes w (vIf (matB n L f) ((gau n (kM f) (L 0)).2.1 : Nat)) (cMat (matB n L f))) := by
  cases hm : matB n L f
  · have HE := Lib.hid (readMatrix_no a n c L f w h (by omega) (fun i hi => by have := hL i hi; omega) hm)
    clear h hL hm
    go_enter Try.func52, Try.ntmps52
    go_wp2_with fail
    refine HE.out.mono ?_
    rintro e w' ⟨rfl, rfl⟩
    go_wp2_with fail
    go_ret2
    exact ⟨rfl, Below.refl _ _⟩
  · obtain ⟨d0, d1, d2, d3, d4, d5⟩ := matB_dims hm
    have HE := Lib.hid (readMatrix_yes a n c L f w h hm)
    have D5 := Lib.hid d5
    clear h hL hm d4 d5
    generalize L 0 = m at *
    go_enter Try.func52, Try.ntmps52
    go_wp2_with fail
    refine HE.out.mono ?_
    rintro e w1 ⟨rfl, hM, hB⟩
    have HM := Lib.hid (hM.rd.toK D5.out)
    have HB := Lib.hid hB
    clear hM hB
    go_wp2_with fail
    refine (basis_f _ n m _ (kM f) _ HM.out d2 (by omega) (by omega)).mono ?_
    rintro e w2 ⟨b2, C2, G2, rfl, -, hB2⟩
    have HB2 := Lib.hid (HB.out.trans (hB2.mono HB.out.size))
    clear hB2
    have hrk := (gau_rank n (kM f) m).2
    generalize (gau n (kM f) m).2.1 = r at *
    go_wp2_with fail
    go_ret2
    exact ⟨rfl, HB2.out⟩
end Go.Proofs.Ytaffdoihmalilaa
