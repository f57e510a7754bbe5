/- Families of rings (the specification's): sizes and sums of elements of abelian groups. -/
import Derived.Test.YtmdmojklagmmiaaFmA
namespace Go.Proofs.Ytmdmojklagmmiaa
open Go.RowKit
set_option linter.unusedSimpArgs false
set_option linter.unusedVariables false
/-- the product of the first orders -/
def prodO (o : Nat → Int) : Nat → Int
  | 0 => 1
  | q + 1 => prodO o q * o q
theorem prodO_pos {o : Nat → Int} {n : Nat} (h : ∀ i, i < n → 1 ≤ o i) : ∀ {q : Nat}, q ≤ n → 1 ≤ prodO o q := by
  intro q
  induction q with
  | zero => intro _; exact Int.le_refl _
  | succ q ih =>
    intro hq
    have h1 := ih (by omega)
    have h2 := h q (by omega)
    have := Int.mul_le_mul h1 h2 (by omega) (by omega)
    rw [prodO]; omega
theorem prodO_step {o : Nat → Int} {n q : Nat} (h : ∀ i, i < n → 1 ≤ o i) (hq : q < n) : prodO o q ≤ prodO o (q + 1) ∧ o q ≤ prodO o (q + 1) := by
  have h1 := prodO_pos h (q := q) (by omega)
  have h2 := h q hq
  rw [prodO]
  constructor
  · have := Int.mul_le_mul_of_nonneg_left h2 (show 0 ≤ prodO o q by omega); omega
  · have := Int.mul_le_mul_of_nonneg_right h1 (show 0 ≤ o q by omega); omega
theorem prodO_mono {o : Nat → Int} {n : Nat} (h : ∀ i, i < n → 1 ≤ o i) : ∀ {q r : Nat}, q ≤ r → r ≤ n → prodO o q ≤ prodO o r := by
  intro q r hqr
  induction r with
  | zero => intro _; obtain rfl : q = 0 := by omega
            exact Int.le_refl _
  | succ r ih =>
    intro hr
    by_cases e : q = r + 1
    · rw [e]; exact Int.le_refl _
    · exact Int.le_trans (ih (by omega) (by omega)) (prodO_step h (by omega)).1
/-- the number of the sum of two elements -/
def addO (o : Nat → Int) : Nat → Int → Int → Int
  | 0, _, _ => 0
  | m + 1, x, y => (x % o m + y % o m) % o m + o m * addO o m (x / o m) (y / o m)
theorem addO_bd {o : Nat → Int} : ∀ {m : Nat} (x y : Int), (∀ i, i < m → 1 ≤ o i) → 0 ≤ addO o m x y ∧ addO o m x y < prodO o m := by
  intro m
  induction m with
  | zero => intro x y _; exact ⟨Int.le_refl _, by show (0 : Int) < 1; omega⟩
  | succ m ih =>
    intro x y h
    obtain ⟨h1, h2⟩ := ih (x / o m) (y / o m) (fun i hi => h i (by omega))
    have ho := h m (by omega)
    have h3 := Int.emod_nonneg (x % o m + y % o m) (show o m ≠ 0 by omega)
    have h4 := Int.emod_lt_of_pos (x % o m + y % o m) (show 0 < o m by omega)
    have h5 : 0 ≤ o m * addO o m (x / o m) (y / o m) := Int.mul_nonneg (by omega) h1
    have h6 : o m * addO o m (x / o m) (y / o m) ≤ o m * (prodO o m - 1) := Int.mul_le_mul_of_nonneg_left (by omega) (by omega)
    have h7 : o m * (prodO o m - 1) = prodO o m * o m - o m := by rw [Int.mul_sub, Int.mul_one, Int.mul_comm]
    rw [addO, prodO]
    constructor <;> omega
def szO (o : Nat → Int) (n : Nat) (lim : Int) : Int := if prodO o n ≤ lim then prodO o n else lim + 1
theorem szO_big {o : Nat → Int} {n q : Nat} {lim : Int} (h : ∀ i, i < n → 1 ≤ o i) (hq : q ≤ n) (hb : lim < prodO o q) : szO o n lim = lim + 1 := by
  have := prodO_mono h hq (Nat.le_refl _)
  rw [szO, if_neg (by omega)]
theorem l06Size_f (a : Option Addr) (n c : Nat) (o : Nat → Int) (lim : Int) (w : World) (h : RdR w a n o) (ho : ∀ i, i < n → 1 ≤ o i) (hn : n ≤ 9000000000) (hl : 1 ≤ lim) (hl2 : lim ≤ 1000) :
    Calls Try.prog 101 #[.slice a n c, .int .i64 lim] w fun e w' => e = .returned (.int .i64 (szO o n lim)) ∧ w = w' := by
  have H := Lib.hid h
  have HO := Lib.hid ho
  clear h ho
  go_enter Try.func101, Try.ntmps101
  go_wp2_with fail
  go_loop [5, 6] (fun s i => ∃ q : Nat, q ≤ n ∧ i = .int .i64 q ∧ s = .int .i64 (prodO o q) ∧ prodO o q ≤ lim) (fun _ i => n - (intOf i).toNat)
  case atStart => exact ⟨0, by omega, rfl, rfl, hl⟩
  case round =>
    obtain ⟨q, hq, rfl, rfl, hle⟩ := hrel
    by_cases hqn : q < n
    · obtain ⟨b, off, rfl, hb, hc⟩ := H.out.open (by omega)
      have e1 := hc q hqn
      have h1 := HO.out q hqn
      have h2 := prodO_pos HO.out hq
      have h3 := prodO_step HO.out hqn
      have HS := Lib.hid (show prodO o (q + 1) = prodO o q * o q from rfl)
      have HBig := Lib.hid (fun hb => szO_big (lim := lim) HO.out (show q + 1 ≤ n by omega) hb)
      clear hc
      obtain ⟨P, hP⟩ : ∃ P, P = prodO o (q + 1) := ⟨_, rfl⟩
      rw [← hP] at HS HBig h3
      have HP := Lib.hid hP
      clear hP
      obtain ⟨p, hp⟩ : ∃ p, p = prodO o q := ⟨_, rfl⟩
      rw [← hp] at HS h2 h3 hle ⊢
      clear hp
      obtain ⟨x, hx⟩ : ∃ x, x = o q := ⟨_, rfl⟩
      rw [← hx] at e1 HS h1 h3
      clear hx
      by_cases hbig : lim < x
      · have HF := Lib.hid (HBig.out (by omega))
        have hw : IntKind.i64.wrap (lim + 1) = lim + 1 := IntWalk.i64_in _ (by omega)
        go_wp2_with fail
        go_ret
        exact ⟨by rw [HF.out] <;> rfl, rfl⟩
      · have hm0 : 0 ≤ p * x := Int.mul_nonneg (by omega) (by omega)
        have hm1 : p * x ≤ 1000 * 1000 := Int.mul_le_mul (by omega) (by omega) (by omega) (by omega)
        have hw0 : IntKind.i64.wrap (p * x) = P := by rw [HS.out]; exact IntWalk.i64_in _ (by omega)
        by_cases hbg : lim < P
        · have HF := Lib.hid (HBig.out hbg)
          have hw : IntKind.i64.wrap (lim + 1) = lim + 1 := IntWalk.i64_in _ (by omega)
          go_wp2_with fail
          go_ret
          exact ⟨by rw [HF.out] <;> rfl, rfl⟩
        · go_wp2_with fail
          exact ⟨⟨q + 1, by omega, by go_num, by rw [← HP.out], by rw [← HP.out]; omega⟩, by simp [intOf]; omega⟩
    · obtain rfl : q = n := by omega
      have HF := Lib.hid (show szO o q lim = prodO o q by rw [szO, if_pos hle])
      go_wp2_with fail
      go_ret
      exact ⟨by rw [HF.out] <;> rfl, rfl⟩
set_option maxHeartbeats 2000000 in
theorem l06Add_f (a : Option Addr) (n c : Nat) (o : Nat → Int) (x y : Int) (w : World) (h : RdR w a n o) (ho : ∀ i, i < n → 1 ≤ o i) (hp : prodO o n ≤ 1000) (hn : n ≤ 9000000000) (hx : 0 ≤ x) (hx2 : x ≤ 1000000) (hy : 0 ≤ y) (hy2 : y ≤ 1000000) :
    Calls Try.prog 102 #[.slice a n c, .int .i64 x, .int .i64 y] w fun e w' => e = .returned (.int .i64 (addO o n x y)) ∧ Below w.heap.size w w' := by
  have H := Lib.hid h
  have HO := Lib.hid ho
  have HP := Lib.hid hp
  clear h ho hp
  go_enter Try.func102, Try.ntmps102
  go_wp2_with fail
  go_loopw [1, 2, 7, 8, 9] (fun vx vy vo vs vi wr => ∃ (m : Nat) (x' y' out st : Int), m ≤ n ∧ vx = .int .i64 x' ∧ vy = .int .i64 y' ∧ vo = .int .i64 out ∧ vs = .int .i64 st ∧ vi = .int .i64 ((m : Int) - 1) ∧ 0 ≤ x' ∧ x' ≤ 1000000 ∧ 0 ≤ y' ∧ y' ≤ 1000000 ∧ 0 ≤ out ∧ 1 ≤ st ∧ out + st * addO o m x' y' = addO o n x y ∧ st * prodO o m = prodO o n ∧ Below w.heap.size w wr) (fun _ _ _ _ vi _ => (intOf vi + 1).toNat)
  case atStart => exact ⟨n, x, y, 0, 1, Nat.le_refl _, rfl, rfl, rfl, rfl, rfl, hx, hx2, hy, hy2, by omega, by omega, by omega, by omega, Below.refl _ _⟩
  case round =>
    obtain ⟨m, x', y', out, st, hm, rfl, rfl, rfl, rfl, rfl, hx0, hx1, hy0, hy1, ho0, hs0, hsum, hpr, hbw⟩ := hrel
    have HBw := Lib.hid hbw
    clear hbw
    clear hx hx2 hy hy2
    cases m with
    | zero =>
      have HF := Lib.hid (show addO o n x y = out by rw [← hsum]; simp [addO])
      clear hsum hpr
      go_wp2_with fail
      go_ret
      exact ⟨by rw [HF.out] <;> rfl, HBw.out⟩
    | succ k =>
      obtain ⟨b, off, rfl, hb, hc⟩ := (H.out.below HBw.out (Nat.le_refl _)).open (by omega)
      have e1 := hc k (by omega)
      have hd1 := HO.out k (by omega)
      have hpk := prodO_pos HO.out (q := k) (by omega)
      have hT := addO_bd (m := n) x y HO.out
      have hA := addO_bd (m := k) (x' / o k) (y' / o k) (fun i hi => HO.out i (by omega))
      have hpn := HP.out
      rw [addO] at hsum
      rw [prodO] at hpr
      obtain ⟨A, hAe⟩ : ∃ A, A = addO o k (x' / o k) (y' / o k) := ⟨_, rfl⟩
      rw [← hAe] at hsum hA
      obtain ⟨d, hd⟩ : ∃ d, d = o k := ⟨_, rfl⟩
      rw [← hd] at hsum hpr e1 hd1 hAe
      have q1 := Int.emod_nonneg x' (show d ≠ 0 by omega)
      have q2 := Int.emod_lt_of_pos x' (show 0 < d by omega)
      have q3 := Int.emod_nonneg y' (show d ≠ 0 by omega)
      have q4 := Int.emod_lt_of_pos y' (show 0 < d by omega)
      have q5 := Int.emod_nonneg (x' % d + y' % d) (show d ≠ 0 by omega)
      have q6 := Int.emod_lt_of_pos (x' % d + y' % d) (show 0 < d by omega)
      have q7 : x' / d ≤ x' := Int.ediv_le_self _ hx0
      have q8 : 0 ≤ x' / d := Int.ediv_nonneg hx0 (by omega)
      have q9 : y' / d ≤ y' := Int.ediv_le_self _ hy0
      have q10 : 0 ≤ y' / d := Int.ediv_nonneg hy0 (by omega)
      have t1 : x'.tmod d = x' % d := Int.tmod_eq_emod_of_nonneg hx0
      have t2 : y'.tmod d = y' % d := Int.tmod_eq_emod_of_nonneg hy0
      have t4 : (x' % d + y' % d).tmod d = (x' % d + y' % d) % d := Int.tmod_eq_emod_of_nonneg (by omega)
      have t5 : x'.tdiv d = x' / d := Int.tdiv_eq_ediv_of_nonneg hx0
      have t6 : y'.tdiv d = y' / d := Int.tdiv_eq_ediv_of_nonneg hy0
      obtain ⟨vx, hvx⟩ : ∃ v, v = x' % d := ⟨_, rfl⟩
      obtain ⟨vy, hvy⟩ : ∃ v, v = y' % d := ⟨_, rfl⟩
      rw [← hvx, ← hvy] at t4 q5 q6 hsum
      rw [← hvx] at t1 q1 q2
      rw [← hvy] at t2 q3 q4
      obtain ⟨z, hz⟩ : ∃ v, v = (vx + vy) % d := ⟨_, rfl⟩
      rw [← hz] at t4 q5 q6 hsum
      obtain ⟨x2, hx2⟩ : ∃ v, v = x' / d := ⟨_, rfl⟩
      obtain ⟨y2, hy2⟩ : ∃ v, v = y' / d := ⟨_, rfl⟩
      rw [← hx2, ← hy2] at hAe
      rw [← hx2] at t5 q7 q8
      rw [← hy2] at t6 q9 q10
      clear hvx hvy hz hx2 hy2
      have s1 : st * d ≤ st * (prodO o k * d) := Int.mul_le_mul_of_nonneg_left (by have := Int.mul_le_mul_of_nonneg_right hpk (show 0 ≤ d by omega); omega) (by omega)
      have s2 : z * st ≤ (d - 1) * st := Int.mul_le_mul_of_nonneg_right (by omega) (by omega)
      have s3 : (d - 1) * st = st * d - st := by rw [Int.sub_mul, Int.one_mul, Int.mul_comm]
      have s4 : 0 ≤ z * st := Int.mul_nonneg q5 (by omega)
      have s5 : 0 ≤ st * d := Int.mul_nonneg (by omega) (by omega)
      have s6 : out + z * st + st * d * A = addO o n x y := by
        rw [← hsum, Int.mul_add, ← Int.mul_assoc, Int.mul_comm st z]; omega
      have s7 : 0 ≤ st * d * A := Int.mul_nonneg s5 hA.1
      have s8 : st * d * prodO o k = prodO o n := by rw [← hpr, Int.mul_assoc, Int.mul_comm d]
      have s9 : 1 ≤ st * d := by have := Int.mul_le_mul hs0 hd1 (by omega) (by omega); omega
      rw [hpr] at s1
      have s10 : d ≤ st * d := by have := Int.mul_le_mul_of_nonneg_right hs0 (show 0 ≤ d by omega); omega
      have hd2 : d ≤ 1000 := by omega
      obtain ⟨zs, hzs⟩ : ∃ v, v = z * st := ⟨_, rfl⟩
      obtain ⟨sd, hsd⟩ : ∃ v, v = st * d := ⟨_, rfl⟩
      rw [← hzs] at s2 s4 s6
      rw [← hsd] at s1 s3 s5 s6 s7 s8 s9
      have w1 : IntKind.i64.wrap (vx + vy) = vx + vy := IntWalk.i64_in _ (by omega)
      have w2 : IntKind.i64.wrap (z * st) = zs := by rw [← hzs]; exact IntWalk.i64_in _ (by omega)
      have w3 : IntKind.i64.wrap (out + zs) = out + zs := IntWalk.i64_in _ (by omega)
      have w4 : IntKind.i64.wrap (st * d) = sd := by rw [← hsd]; exact IntWalk.i64_in _ (by omega)
      have w5 : IntKind.i64.wrap x2 = x2 := IntWalk.i64_in _ (by omega)
      have w6 : IntKind.i64.wrap y2 = y2 := IntWalk.i64_in _ (by omega)
      have hdz : (d == 0) = false := by simp; omega
      have hk : ((k + 1 : Nat) : Int) - 1 = (k : Int) := by omega
      have HR := Lib.hid (show 0 ≤ x2 ∧ x2 ≤ 1000000 ∧ 0 ≤ y2 ∧ y2 ≤ 1000000 ∧ 0 ≤ out + zs ∧ 1 ≤ sd ∧ out + zs + sd * addO o k x2 y2 = addO o n x y ∧ sd * prodO o k = prodO o n from ⟨q8, by omega, q10, by omega, by omega, s9, by rw [← hAe]; exact s6, s8⟩)
      have hkn : k < n := by omega
      clear s10 hc s1 s2 s3 s4 s5 s6 s7 s8 s9 hsum hpr hAe hA hT hpk hpn hd hzs hsd
      rw [hk]
      clear hk
      go_wp2_with fail
      go_region
      go_wp2_with fail
      exact ⟨⟨k, _, _, _, _, by omega, rfl, rfl, rfl, rfl, by go_num, HR.out.1, HR.out.2.1, HR.out.2.2.1, HR.out.2.2.2.1, HR.out.2.2.2.2.1, HR.out.2.2.2.2.2.1, HR.out.2.2.2.2.2.2.1, HR.out.2.2.2.2.2.2.2, HBw.out.drew⟩, by simp [intOf]⟩
end Go.Proofs.Ytmdmojklagmmiaa
