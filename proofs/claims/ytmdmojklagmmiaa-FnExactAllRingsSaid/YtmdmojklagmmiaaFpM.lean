/- Families of rings: the mathematics. -/
import Derived.Test.YtmdmojklagmmiaaFmD
import Derived.Test.YtmdmojklagmmiaaFmE
import Derived.Test.YtmdmojklagmmiaaFmG
import Derived.Test.YtmdmojklagmmiaaRgM
import Derived.Test.YtmdmojklagmmiaaVwt
import Derived.Test.YtmdmojklagmmiaaTri
namespace Go.Proofs.Ytmdmojklagmmiaa
open Go.RowKit
set_option linter.unusedSimpArgs false
set_option linter.unusedVariables false
/-- the number of elements, at most 17, as the program counts it -/
def rkO (o : Nat → Int) : Nat → Int
  | 0 => 1
  | q + 1 => min (rkO o q * min (o q) 17) 17
theorem rkO_eq {o : Nat → Int} {n : Nat} (h : ∀ i, i < n → 1 ≤ o i) : ∀ q, q ≤ n → 1 ≤ rkO o q ∧ rkO o q ≤ 17 ∧ rkO o q = if prodO o q ≤ 16 then prodO o q else 17 := by
  intro q
  induction q with
  | zero => intro _; exact ⟨by show (1:Int) ≤ 1; omega, by show (1:Int) ≤ 17; omega, rfl⟩
  | succ q ih =>
    intro hq
    obtain ⟨h1, h2, h3⟩ := ih (by omega)
    have ho := h q (by omega)
    have hp := prodO_pos h (q := q) (by omega)
    obtain ⟨s1, s2⟩ := prodO_step h (show q < n by omega)
    show 1 ≤ min (rkO o q * min (o q) 17) 17 ∧ min (rkO o q * min (o q) 17) 17 ≤ 17 ∧ min (rkO o q * min (o q) 17) 17 = _
    have e : prodO o (q + 1) = prodO o q * o q := rfl
    have m1 : 1 ≤ min (o q) 17 := by omega
    have hm : min (o q) 17 ≤ rkO o q * min (o q) 17 := by
      have := Int.mul_le_mul_of_nonneg_right h1 (show 0 ≤ min (o q) 17 by omega); omega
    have hm2 : rkO o q ≤ rkO o q * min (o q) 17 := by
      have := Int.mul_le_mul_of_nonneg_left m1 (show 0 ≤ rkO o q by omega); omega
    refine ⟨by omega, by omega, ?_⟩
    by_cases hb : prodO o (q + 1) ≤ 16
    · rw [if_pos hb]
      rw [if_pos (by omega)] at h3
      have e2 : min (o q) 17 = o q := by omega
      rw [e2, h3, ← e]; omega
    · rw [if_neg hb]
      by_cases hc : prodO o q ≤ 16
      · rw [if_pos hc] at h3
        by_cases hd : o q ≤ 17
        · have e2 : min (o q) 17 = o q := by omega
          rw [e2, h3, ← e]; omega
        · omega
      · rw [if_neg hc] at h3; omega
theorem grp_row {o : Nat → Int} {n N i j : Nat} (hi : i < N) (hj : j < N) (k : Nat) : oneZ (addO o n i j).toNat k = grpF o n N i j k := by
  unfold oneZ grpF
  by_cases h : k = (addO o n i j).toNat
  · rw [if_pos h, if_pos ⟨hi, hj, h⟩]
  · rw [if_neg h, if_neg (fun e => h e.2.2)]
theorem near_in {o : Nat → Int} {n N i j : Nat} {kk : Int} (hi : i < N) (hj : j < N) (k : Nat) : nearF o n N kk i j k = grpF o n N i j k := by
  unfold nearF nearP
  rw [if_neg (by omega), if_neg (by omega)]
theorem near_side {o : Nat → Int} {n N i j : Nat} {kk : Int} (hi : i < N + 1) (hj : j < N + 1) (h1 : ¬ (i < N ∧ j < N)) (h2 : i < N ∨ j < N) (k : Nat) : nearF o n N kk i j k = oneZ N k := by
  unfold nearF nearP oneZ grpF
  rw [if_neg (by omega)]
  by_cases h : k = N
  · rw [if_pos h, if_pos (by omega)]
  · rw [if_neg h, if_neg (by omega), if_neg (by omega)]
theorem near_last {o : Nat → Int} {n N : Nat} {kk : Int} (k : Nat) (hk : k < N + 1) : nearF o n N kk N N k = if k = N then kk else 1 := by
  unfold nearF nearP
  by_cases h : k = N
  · rw [if_pos h, if_pos ⟨rfl, rfl, h⟩]
  · rw [if_neg h, if_neg (by omega), if_pos (by omega)]
theorem dh_row {n x y : Nat} (hx : x < 2 * n) (hy : y < 2 * n) : dhZ n x y = (x + (if n ≤ x then n - y % n else y % n)) % n + (if (n ≤ x) ≠ (n ≤ y) then n else 0) := by
  unfold dhZ
  have h0 : 0 < n := by omega
  have hym := Nat.mod_lt y h0
  congr 1
  · by_cases h : x < n
    · rw [if_pos h, if_neg (by omega), Nat.mod_eq_of_lt h]
    · rw [if_neg h, if_pos (by omega), Nat.add_sub_assoc (by omega)]
      rw [Nat.mod_add_mod]
  · by_cases h : x < n <;> by_cases g : y < n <;> simp [h, g, Nat.not_le.2, Nat.not_lt.1] <;> omega
theorem even_spin {lev i j k : Nat} : spinF lev 1 (2 * i) (2 * j) (2 * k) = spinF lev 2 i j k := by
  unfold spinF
  have hL : spL 1 (2 * i) (2 * j) = spL 2 i j := by unfold spL; simp only [Nat.mul_one, Nat.mul_comm 2]
  have hH : spH lev 1 (2 * i) (2 * j) = spH lev 2 i j := by unfold spH; simp only [Nat.mul_one, Nat.mul_comm 2]
  have he : ∃ m, spL 2 i j = 2 * m := ⟨if i * 2 ≤ j * 2 then j - i else i - j, by unfold spL; split <;> omega⟩
  obtain ⟨m, hm⟩ := he
  rw [hL, hH]
  congr 1
  refine propext ⟨?_, ?_⟩
  · rintro ⟨u, h1, h2⟩
    exact ⟨u, h1, by rw [Nat.div_one] at h2; omega⟩
  · rintro ⟨u, h1, h2⟩
    exact ⟨u, h1, by rw [Nat.div_one]; omega⟩
def rgC (lo hi k : Int) : Int := if k < lo ∨ hi < k then 2 else 0
/-- the orders of a group -/
def ordB (n : Nat) (o : Nat → Int) : Bool := decide (0 < n ∧ ∀ i, i < n → 1 ≤ o i)
theorem ordB_t {n : Nat} {o : Nat → Int} (h : ordB n o = true) : 0 < n ∧ ∀ i, i < n → 1 ≤ o i := of_decide_eq_true h
theorem ordB_mk {n : Nat} {o : Nat → Int} (h0 : 0 < n) (h : ∀ i, i < n → 1 ≤ o i) : ordB n o = true := decide_eq_true ⟨h0, h⟩
theorem ordB_no {n i : Nat} {o : Nat → Int} (hi : i < n) (h : ¬ 1 ≤ o i) : ordB n o = false := decide_eq_false fun c => h (c.2 i hi)
theorem ordB_zero {o : Nat → Int} : ordB 0 o = false := decide_eq_false fun c => by omega
theorem szO_rk {n : Nat} {o : Nat → Int} (h : ∀ i, i < n → 1 ≤ o i) : szO o n 16 = rkO o n ∧ 1 ≤ rkO o n ∧ rkO o n ≤ 17 := by
  obtain ⟨h1, h2, h3⟩ := rkO_eq h n (Nat.le_refl _)
  refine ⟨?_, h1, h2⟩
  rw [h3, szO]
  split <;> omega
/-- the number of elements, at most 17 -/
def gN (n : Nat) (o : Nat → Int) : Nat := (rkO o n).toNat
theorem gN_eq {n : Nat} {o : Nat → Int} (h : ∀ i, i < n → 1 ≤ o i) : szO o n 16 = gN n o ∧ rkO o n = gN n o ∧ 1 ≤ gN n o ∧ gN n o ≤ 17 ∧ (gN n o ≤ 16 → prodO o n = gN n o) := by
  obtain ⟨h1, h2, h3⟩ := szO_rk h
  obtain ⟨_, _, h4⟩ := rkO_eq h n (Nat.le_refl _)
  have e : rkO o n = (gN n o : Nat) := by unfold gN; omega
  refine ⟨by rw [h1, e], e, by omega, by omega, fun h5 => ?_⟩
  rw [e] at h4
  split at h4 <;> omega
/-- the code that a family's ring has -/
def codF (code : Int) (n : Nat) (f : Nat → Nat → Nat → Int) : Int := if code ≠ 0 then code else if 16 < n then 3 else if cubB n (fun _ => n) (fun _ _ => n) f = true then 0 else 3
def rnkF (code : Int) (n : Nat) (f : Nat → Nat → Nat → Int) : Nat := if codF code n f = 0 then n else 0
theorem codF_arg {code : Int} {n : Nat} {f : Nat → Nat → Nat → Int} (h : code ≠ 0) : codF code n f = code ∧ rnkF code n f = 0 := by
  have e : codF code n f = code := by unfold codF; rw [if_pos h]
  exact ⟨e, by unfold rnkF; rw [e, if_neg h]⟩
theorem codF_big {n : Nat} {f : Nat → Nat → Nat → Int} (h : 16 < n) : codF 0 n f = 3 ∧ rnkF 0 n f = 0 := by
  have e : codF 0 n f = 3 := by unfold codF; rw [if_neg (by simp), if_pos h]
  exact ⟨e, by unfold rnkF; rw [e, if_neg (by decide)]⟩
theorem codF_no {n : Nat} {f : Nat → Nat → Nat → Int} (h : ¬ 16 < n) (hc : cubB n (fun _ => n) (fun _ _ => n) f = false) : codF 0 n f = 3 ∧ rnkF 0 n f = 0 := by
  have e : codF 0 n f = 3 := by unfold codF; rw [if_neg (by simp), if_neg h, if_neg (by simp [hc])]
  exact ⟨e, by unfold rnkF; rw [e, if_neg (by decide)]⟩
theorem codF_yes {n : Nat} {f : Nat → Nat → Nat → Int} (h : ¬ 16 < n) (hc : cubB n (fun _ => n) (fun _ _ => n) f = true) : codF 0 n f = 0 ∧ rnkF 0 n f = n := by
  have e : codF 0 n f = 0 := by unfold codF; rw [if_neg (by simp), if_neg h, if_pos hc]
  exact ⟨e, by unfold rnkF; rw [e, if_pos rfl]⟩
/-- what a call that makes a row returns -/
def RowN (w : World) (n : Nat) (f : Nat → Int) (e : Ending) (w' : World) : Prop :=
  ∃ g c, e = .returned (.slice (some ⟨g, 0, none⟩) n c) ∧ n ≤ c ∧ c ≤ maxLen ∧ w.heap.size ≤ g ∧ RowI w' 2 g n f ∧ Below w.heap.size w w'
theorem cub_of {n : Nat} {f : Nat → Nat → Nat → Int} (h0 : 1 ≤ n) (h1 : n ≤ 16) (h : ∀ i j k, i < n → j < n → k < n → 0 ≤ f i j k ∧ f i j k ≤ 1000) : cubB n (fun _ => n) (fun _ _ => n) f = true :=
  cubB_mk h0 h1 fun i hi => ⟨rfl, fun j hj => ⟨rfl, fun k hk => h i j k hi hj hk⟩⟩
theorem grpF_bd (o : Nat → Int) (n N i j k : Nat) : 0 ≤ grpF o n N i j k ∧ grpF o n N i j k ≤ 1 := by unfold grpF; split <;> omega
theorem nearF_bd {o : Nat → Int} {n N : Nat} {kk : Int} (h0 : 0 ≤ kk) (h1 : kk ≤ 1000) (i j k : Nat) : 0 ≤ nearF o n N kk i j k ∧ nearF o n N kk i j k ≤ 1000 := by
  unfold nearF nearP
  have := grpF_bd o n N i j k
  split
  · omega
  · split <;> omega
theorem dhF_bd (n i j k : Nat) : 0 ≤ dhF n i j k ∧ dhF n i j k ≤ 1 := by unfold dhF; split <;> omega
theorem spinF_bd (lev st i j k : Nat) : 0 ≤ spinF lev st i j k ∧ spinF lev st i j k ≤ 1 := by unfold spinF; split <;> omega
/-- a table is put into the result, and returned -/
theorem ringRes_put {w w2 : World} {R g cg n N lo hi : Nat} {M : Nat → Nat} {L : Nat → Nat → Nat} {F : Nat → Nat → Nat → Int} {cd : Int} (hR : w.heap.size ≤ R) (hRl : R < lo) (hcu : CubO w2 lo hi g n M L F) (hhi : hi ≤ w2.heap.size) (hb : Below w.heap.size w w2) (hN : N = n) (hcd : cd = 0) (v : Value) :
    RingRes w N M L F cd (.returned (.tuple #[.agg #[.slice (some ⟨g, 0, none⟩) n cg], .int .i64 0])) (w2.setCell ⟨R, 0, none⟩ v) := by
  subst hN
  subst hcd
  have ho : Only (fun q => q = R) w2 (w2.setCell ⟨R, 0, none⟩ v) := (Only.refl (fun q => q = R) w2).setCell (p := ⟨R, 0, none⟩) rfl v
  have hz := ho.size
  exact ⟨some ⟨g, 0, none⟩, cg, rfl, Or.inr ⟨g, rfl, (hcu.only ho (fun k hk h => by have e : k = R := hk; omega)).mono (by omega) (by omega)⟩, hb.setCell hR v⟩
/-- a ring that a call has made is put into the result, and returned -/
theorem ringRes_pass {w w0 w2 : World} {R N c : Nat} {a : Option Addr} {M : Nat → Nat} {L : Nat → Nat → Nat} {F : Nat → Nat → Nat → Int} {cd : Int} (hb0 : Below w.heap.size w w0) (hR : w.heap.size ≤ R) (hR2 : R < w0.heap.size) (ho : OwnT w2 w0.heap.size w2.heap.size a N M L F) (hb : Below w0.heap.size w0 w2) (v : Value) :
    RingRes w N M L F cd (.returned (.tuple #[.agg #[.slice a N c], .int .i64 cd])) (w2.setCell ⟨R, 0, none⟩ v) := by
  have hon : Only (fun q => q = R) w2 (w2.setCell ⟨R, 0, none⟩ v) := (Only.refl (fun q => q = R) w2).setCell (p := ⟨R, 0, none⟩) rfl v
  have hz := hon.size
  have hz0 := hb0.size
  refine ⟨a, c, rfl, ?_, (hb0.trans (hb.mono hz0)).setCell hR v⟩
  rcases ho with h0 | ⟨b, rfl, hm⟩
  · exact Or.inl h0
  · exact Or.inr ⟨b, rfl, (hm.only hon (fun k hk h => by have e : k = R := hk; omega)).mono hz0 (by omega)⟩
theorem rgC_in {lo hi k : Int} (h : lo ≤ k ∧ k ≤ hi) : rgC lo hi k = 0 := if_neg (by omega)
theorem rgC_out {lo hi k : Int} (h : ¬ (lo ≤ k ∧ k ≤ hi)) : rgC lo hi k = 2 := if_pos (by omega)
theorem rgC_zero {lo hi k : Int} (h : rgC lo hi k = 0) : lo ≤ k ∧ k ≤ hi := by
  unfold rgC at h; split at h <;> first | omega | cases h
theorem rgC_wf (lo hi k : Int) : (Lit.int .i64 (rgC lo hi k)).wf = true := by unfold rgC; split <;> rfl
theorem codF_size {code : Int} {n : Nat} {f : Nat → Nat → Nat → Int} : rnkF code n f ≤ 16 ∧ (0 < rnkF code n f → n ≤ 16) := by
  unfold rnkF
  split
  · rename_i h
    have : n ≤ 16 := by
      unfold codF at h
      by_cases hc : code ≠ 0
      · rw [if_pos hc] at h; exact absurd h hc
      · rw [if_neg hc] at h
        by_cases hb : 16 < n
        · rw [if_pos hb] at h; cases h
        · omega
    exact ⟨this, fun _ => this⟩
  · exact ⟨by omega, fun h => absurd h (by omega)⟩
/-- the result's variable, made first -/
theorem res_start (w : World) : ∃ W, W = w.alloc (.cells #[.slice none 0 0] 29) ∧ Below w.heap.size w W ∧ W.heap.size = w.heap.size + 1 ∧ RowB W 29 w.heap.size 1 (fun _ => .slice none 0 0) :=
  ⟨_, rfl, below_alloc _ _, by simp, row_one _ _ _⟩
theorem res_cells {w : World} {t : TypeId} {b : Nat} {x : Value} (h : RowB w t b 1 (fun _ => x)) (v : Value) : w.cell? ⟨b, 0, none⟩ = some x ∧ w.frozen? ⟨b, 0, none⟩ = false ∧ (w.setCell ⟨b, 0, none⟩ v).cell? ⟨b, 0, none⟩ = some v := by
  refine ⟨RowB.cell h (show 0 < 1 by omega), RowB.frozen h 0, ?_⟩
  have := RowB.cell (h.set 0 v) (show 0 < 1 by omega)
  rwa [if_pos rfl] at this
end Go.Proofs.Ytmdmojklagmmiaa
