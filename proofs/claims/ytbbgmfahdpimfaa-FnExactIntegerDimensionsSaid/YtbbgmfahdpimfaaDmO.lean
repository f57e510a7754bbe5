/- Integer dimensions, in numbers; halve. -/
import Derived.Test.YtbbgmfahdpimfaaDmN
namespace Go.Proofs.Ytbbgmfahdpimfaa
open Go.RowKit
set_option linter.unusedSimpArgs false
theorem nx_ge {n : Nat} {f : Nat → Nat → Nat → Int} (R : Rng n f) {v : Nat → Int} (hv : ∀ k, k < n → 0 ≤ v k) {j : Nat} (hj : j < n) : nxZ n f v 0 ≤ nxZ n f v j ∧ nxZ n f v j ≤ 16000 * nxZ n f v 0 := by
  rw [nx_len, nx_len, ← sumZ_mul]
  constructor
  · refine sumZ_mono fun k hk => ?_
    rw [len_zero R hk]
    exact Int.mul_le_mul_of_nonneg_right (len_pos R hj hk) (hv k hk)
  · refine sumZ_mono fun k hk => ?_
    rw [len_zero R hk, Int.one_mul]
    exact Int.mul_le_mul_of_nonneg_right (len_le R hj hk) (hv k hk)
theorem nx_zero_ge {n : Nat} {f : Nat → Nat → Nat → Int} (R : Rng n f) {v : Nat → Int} (hv : ∀ k, k < n → 0 ≤ v k) : v 0 ≤ nxZ n f v 0 := by
  rw [nx_len]
  have := sumZ_term (g := fun k => lenZ n f 0 k * v k) (n := n) (i := 0) (fun k hk => Int.mul_nonneg (by rw [len_zero R hk]; decide) (hv k hk)) R.h0
  have e : lenZ n f 0 0 * v 0 = v 0 := by rw [len_zero R R.h0, Int.one_mul]
  omega
/-- the weights of a round of the program -/
structure PS (n : Nat) (f : Nat → Nat → Nat → Int) (t : Nat) (v : Nat → Int) : Prop where
  pos : 0 < v 0
  bd : ∀ k, k < n → v 0 ≤ v k ∧ v k ≤ 17592186044416 ∧ v k ≤ 32000 * v 0
  near : ∀ d, IsDim n f d → Nr n d v (rq 2051 t)
theorem ps_start {n : Nat} {f : Nat → Nat → Nat → Int} (R : Rng n f) : PS n f 0 (fun _ => 1) :=
  ⟨by decide, fun k _ => by decide, fun d hd => nr_start (c := 1) (by decide) (fun _ _ => rfl) fun j hj => ⟨(hd j hj).1, dim_le R hd hj⟩⟩
/-- h is the number of times that z is halved -/
def Hv (n : Nat) (z : Nat → Int) (h : Nat) : Prop := h = 0 ∨ ∃ j, j < n ∧ 17592186044416 < z j / 2 ^ (h - 1)
theorem ps_step {n : Nat} {f : Nat → Nat → Nat → Int} (R : Rng n f) {t : Nat} {v : Nat → Int} (P : PS n f t v) {h : Nat} (hh : Hv n (nxZ n f v) h) (hlim : ∀ k, k < n → nxZ n f v k / 2 ^ h ≤ 17592186044416) : PS n f (t + 1) (fun k => nxZ n f v k / 2 ^ h) := by
  have hv : ∀ k, k < n → 0 ≤ v k := fun k hk => by have := P.pos; have := (P.bd k hk).1; omega
  have h0 := nx_zero_ge R hv
  have hpos := P.pos
  have hge := fun j (hj : j < n) => nx_ge R hv hj
  obtain ⟨z, hz⟩ : ∃ z, z = nxZ n f v := ⟨_, rfl⟩
  have hstep : ∀ d, IsDim n f d → Nr n d z ((3 * rq 2051 t + 3) / 4) := fun d hd => by rw [hz]; exact nr_step R hd (rq_pos (by decide) t) (by omega) (P.near d hd)
  rw [← hz] at h0 hge hh hlim ⊢
  have hr0 := rq_pos (c := 2051) (by decide) t
  have hrs : rq 2051 (t + 1) = 4 * rq 2051 t / 5 + 2051 := rfl
  obtain ⟨H, hH⟩ : ∃ H : Int, H = 2 ^ h := ⟨_, rfl⟩
  have hHp : 0 < H := by rw [hH]; exact Int.pow_pos (by decide)
  rw [← hH] at hlim ⊢
  have hmono : ∀ k, k < n → z 0 / H ≤ z k / H := fun k hk => Int.ediv_le_ediv hHp (hge k hk).1
  rcases hh with rfl | ⟨j, hj, hbig⟩
  · have hH1 : H = 1 := by rw [hH]; rfl
    subst hH1
    simp only [Int.ediv_one] at *
    exact ⟨by omega, fun k hk => ⟨(hge k hk).1, hlim k hk, by have := (hge k hk).2; omega⟩, fun d hd => nr_mono (fun j hj => (hd j hj).1) (by rw [hrs]; omega) (hstep d hd)⟩
  · by_cases hz0 : h = 0
    · subst hz0
      have hH1 : H = 1 := by rw [hH]; rfl
      subst hH1
      simp only [Int.ediv_one] at *
      exact ⟨by omega, fun k hk => ⟨(hge k hk).1, hlim k hk, by have := (hge k hk).2; omega⟩, fun d hd => nr_mono (fun j hj => (hd j hj).1) (by rw [hrs]; omega) (hstep d hd)⟩
    · obtain ⟨G, hG⟩ : ∃ G : Int, G = 2 ^ (h - 1) := ⟨_, rfl⟩
      have hGp : 0 < G := by rw [hG]; exact Int.pow_pos (by decide)
      have hHG : H = G * 2 := by rw [hH, hG, ← Int.pow_succ]; congr 1; omega
      rw [← hG] at hbig
      have k1 : 17592186044416 * G ≤ z j := by
        have := (Int.le_ediv_iff_mul_le hGp).1 (show (17592186044416 : Int) ≤ z j / G by omega)
        exact this
      have k2 := (hge j hj).2
      have k3 : 536870912 ≤ z 0 / H := (Int.le_ediv_iff_mul_le hHp).2 (by omega)
      have hlt : z 0 < H * (z 0 / H + 1) := by
        have := Int.mul_ediv_add_emod (z 0) H; have := Int.emod_lt_of_pos (z 0) hHp; rw [Int.mul_add]; omega
      refine ⟨by show 0 < z 0 / H; omega, fun k hk => ⟨hmono k hk, hlim k hk, ?_⟩, fun d hd => ?_⟩
      · show z k / H ≤ 32000 * (z 0 / H)
        have k4 := (hge k hk).2
        have k5 : z k < H * (16000 * (z 0 / H + 1)) := by
          have : 16000 * (H * (z 0 / H + 1)) = H * (16000 * (z 0 / H + 1)) := by grind
          omega
        have : z k / H < 16000 * (z 0 / H + 1) := (Int.ediv_lt_iff_lt_mul hHp).2 (by rw [Int.mul_comm]; exact k5)
        omega
      · refine nr_scale (H := H) (P := 1) (B := 536870912) (fun j hj => (hd j hj).1) hHp (by decide) (by decide) (fun q hq => ?_) (by rw [hrs]; omega) (hstep d hd)
        have e1 := Int.mul_ediv_add_emod (z q) H
        have e2 := Int.emod_lt_of_pos (z q) hHp
        have e3 := Int.emod_nonneg (z q) (show H ≠ 0 by omega)
        have e4 := hmono q hq
        exact ⟨by show H * (z q / H) ≤ 1 * z q; omega, by show 1 * z q < H * (z q / H) + H; omega, by show 536870912 ≤ z q / H; omega⟩
/-- the weights of a round of the specification -/
structure QS (n : Nat) (f : Nat → Nat → Nat → Int) (t : Nat) (v : Nat → Int) : Prop where
  one : v 0 = 1000000
  bd : ∀ k, k < n → 1000000 ≤ v k ∧ v k ≤ 16000000000
  near : ∀ d, IsDim n f d → Nr n d v (rq 1099520 t)
theorem qs_start {n : Nat} {f : Nat → Nat → Nat → Int} (R : Rng n f) : QS n f 0 (fun _ => 1000000) :=
  ⟨rfl, fun k _ => by decide, fun d hd => nr_start (c := 1000000) (by decide) (fun _ _ => rfl) fun j hj => ⟨(hd j hj).1, dim_le R hd hj⟩⟩
theorem qs_step {n : Nat} {f : Nat → Nat → Nat → Int} (R : Rng n f) {t : Nat} {v : Nat → Int} (P : QS n f t v) : QS n f (t + 1) (fun k => nxZ n f v k * 1000000 / nxZ n f v 0) := by
  have hv : ∀ k, k < n → 0 ≤ v k := fun k hk => by have := (P.bd k hk).1; omega
  have h0 := nx_zero_ge R hv
  rw [P.one] at h0
  have hge := fun j (hj : j < n) => nx_ge R hv hj
  obtain ⟨z, hz⟩ : ∃ z, z = nxZ n f v := ⟨_, rfl⟩
  have hstep : ∀ d, IsDim n f d → Nr n d z ((3 * rq 1099520 t + 3) / 4) := fun d hd => by rw [hz]; exact nr_step R hd (rq_pos (by decide) t) (by omega) (P.near d hd)
  rw [← hz] at h0 hge ⊢
  have hr0 := rq_pos (c := 1099520) (by decide) t
  have hrs : rq 1099520 (t + 1) = 4 * rq 1099520 t / 5 + 1099520 := rfl
  have hp : 0 < z 0 := by omega
  have hb : ∀ k, k < n → 1000000 ≤ z k * 1000000 / z 0 ∧ z k * 1000000 / z 0 ≤ 16000000000 := fun k hk => by
    obtain ⟨a1, a2⟩ := hge k hk
    refine ⟨(Int.le_ediv_iff_mul_le hp).2 (by omega), ?_⟩
    have : z k * 1000000 / z 0 < 16000000000 + 1 := (Int.ediv_lt_iff_lt_mul hp).2 (by omega)
    omega
  refine ⟨?_, hb, fun d hd => ?_⟩
  · show z 0 * 1000000 / z 0 = 1000000
    rw [Int.mul_comm]; exact Int.mul_ediv_cancel _ (by omega)
  · refine nr_scale (H := z 0) (P := 1000000) (B := 1000000) (fun j hj => (hd j hj).1) hp (by decide) (by decide) (fun q hq => ?_) (by rw [hrs]; omega) (hstep d hd)
    have e1 := Int.mul_ediv_add_emod (z q * 1000000) (z 0)
    have e2 := Int.emod_lt_of_pos (z q * 1000000) hp
    have e3 := Int.emod_nonneg (z q * 1000000) (show z 0 ≠ 0 by omega)
    exact ⟨by show z 0 * (z q * 1000000 / z 0) ≤ 1000000 * z q; omega, by show 1000000 * z q < z 0 * (z q * 1000000 / z 0) + z 0; omega, (hb q hq).1⟩
/-- what is found is the dimensions, if they are integers -/
def NearD (n : Nat) (f : Nat → Nat → Nat → Int) (D : Nat → Int) : Prop := (∀ d, IsDim n f d → ∀ k, k < n → D k = d k) ∧ ∀ k, k < n → 0 ≤ D k ∧ D k ≤ 40000
theorem ps_end {n : Nat} {f : Nat → Nat → Nat → Int} (R : Rng n f) {v : Nat → Int} (P : PS n f 128 v) : NearD n f (fun k => (v k + v 0 / 2) / v 0) := by
  have hp := P.pos
  refine ⟨fun d hd k hk => nr_end R.h0 (dim_zero R hd) (rq_pos (by decide) _) rq_prog (P.near d hd) hp hk ⟨(hd k hk).1, dim_le R hd hk⟩, fun k hk => ?_⟩
  obtain ⟨b1, b2, b3⟩ := P.bd k hk
  refine ⟨Int.ediv_nonneg (by omega) (by omega), ?_⟩
  have : (v k + v 0 / 2) / v 0 < 40000 + 1 := (Int.ediv_lt_iff_lt_mul hp).2 (by omega)
  exact Int.lt_add_one_iff.1 this
theorem qs_end {n : Nat} {f : Nat → Nat → Nat → Int} (R : Rng n f) {v : Nat → Int} (P : QS n f 400 v) : NearD n f (fun k => (v k + 500000) / 1000000) := by
  have h1 := P.one
  have hp : 0 < v 0 := by omega
  have e : ∀ k, (v k + 500000) / 1000000 = (v k + v 0 / 2) / v 0 := fun k => by rw [h1]; rfl
  refine ⟨fun d hd k hk => ?_, fun k hk => ?_⟩
  · show (v k + 500000) / 1000000 = d k
    rw [e k]
    exact nr_end R.h0 (dim_zero R hd) (rq_pos (by decide) _) rq_spec (P.near d hd) hp hk ⟨(hd k hk).1, dim_le R hd hk⟩
  · obtain ⟨b1, b2⟩ := P.bd k hk
    show 0 ≤ (v k + 500000) / 1000000 ∧ (v k + 500000) / 1000000 ≤ 40000
    omega
/-- whether a ring is integral -/
noncomputable def dmB (n : Nat) (f : Nat → Nat → Nat → Int) : Bool := @decide (∃ d, IsDim n f d) (Classical.propDecidable _)
/-- its dimensions -/
noncomputable def dmZ (n : Nat) (f : Nat → Nat → Nat → Int) : Nat → Int := open Classical in if h : ∃ d, IsDim n f d then Classical.choose h else fun _ => 0
theorem dmB_t {n : Nat} {f : Nat → Nat → Nat → Int} (h : dmB n f = true) : IsDim n f (dmZ n f) := by
  have h' : ∃ d, IsDim n f d := @of_decide_eq_true _ (Classical.propDecidable _) h
  unfold dmZ
  rw [dif_pos h']
  exact Classical.choose_spec h'
theorem isDim_congr {n : Nat} {f : Nat → Nat → Nat → Int} {d e : Nat → Int} (h : ∀ k, k < n → d k = e k) (hd : IsDim n f d) : IsDim n f e := fun i hi => ⟨by rw [← h i hi]; exact (hd i hi).1, fun j hj => by
  rw [← h i hi, ← h j hj, ← (hd i hi).2 j hj]
  exact sumZ_congr fun k hk => by rw [h k hk]⟩
theorem near_is {n : Nat} {f : Nat → Nat → Nat → Int} {D : Nat → Int} (h : NearD n f D) : decide (IsDim n f D) = dmB n f := by
  by_cases e : IsDim n f D
  · rw [decide_eq_true e]
    exact (@decide_eq_true _ (Classical.propDecidable _) ⟨D, e⟩).symm
  · rw [decide_eq_false e]
    exact (@decide_eq_false _ (Classical.propDecidable _) fun ⟨d, hd⟩ => e (isDim_congr (fun k hk => (h.1 d hd k hk).symm) hd)).symm
theorem near_eq {n : Nat} {f : Nat → Nat → Nat → Int} {D : Nat → Int} (h : NearD n f D) (hb : dmB n f = true) : ∀ k, k < n → D k = dmZ n f k := h.1 _ (dmB_t hb)
theorem half_pow (z : Int) (h : Nat) : z / 2 ^ h / 2 = z / 2 ^ (h + 1) := by
  rw [Int.pow_succ, Int.ediv_ediv_of_nonneg (Int.le_of_lt (Int.pow_pos (by decide)))]
theorem hv_le {n : Nat} {z : Nat → Int} {h : Nat} (hz : ∀ k, k < n → 0 ≤ z k ∧ z k ≤ 4611686018427387904) (hh : Hv n z h) : h ≤ 64 := by
  rcases hh with rfl | ⟨j, hj, hb⟩
  · omega
  · refine Nat.not_lt.1 fun hlt => ?_
    have h1 : (2 : Int) ^ 63 ≤ 2 ^ (h - 1) := by
      have : (2 : Nat) ^ 63 ≤ 2 ^ (h - 1) := Nat.pow_le_pow_right (by decide) (by omega)
      exact_mod_cast this
    have h2 : z j < 2 ^ (h - 1) := by have := hz j hj; omega
    rw [Int.ediv_eq_zero_of_lt (hz j hj).1 h2] at hb
    omega
/-- the state of halving -/
def HvS (n : Nat) (z : Nat → Int) (g : Nat) (w wr : World) (mu : Nat) : Prop := ∃ h, h + mu = 64 ∧ Hv n z h ∧ RowI wr 2 g n (fun k => z k / 2 ^ h) ∧ Only (· = g) w wr
end Go.Proofs.Ytbbgmfahdpimfaa
