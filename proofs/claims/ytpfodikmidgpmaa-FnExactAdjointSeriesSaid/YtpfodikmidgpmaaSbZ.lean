/- The ring of a subring keeps the laws; its adjoint. -/
import Derived.Test.YtpfodikmidgpmaaSbW
namespace Go.Proofs.Ytpfodikmidgpmaa
open Go.RowKit
set_option linter.unusedSimpArgs false
set_option linter.unusedVariables false
theorem lbl_sorted (s : Nat) : (lbl s).Pairwise (· < ·) := by
  unfold lbl lbM
  exact List.Pairwise.filter _ List.pairwise_lt_range
theorem lN_lt {s i j : Nat} (hij : i < j) (hj : j < (lbl s).length) : lN s i < lN s j := by
  have h := List.pairwise_iff_getElem.1 (lbl_sorted s) i j (by omega) hj hij
  unfold lN
  rw [List.getD_eq_getElem?_getD, List.getD_eq_getElem?_getD, List.getElem?_eq_getElem hj, List.getElem?_eq_getElem (show i < (lbl s).length by omega)]
  exact h
theorem lN_inj {s i j : Nat} (hi : i < (lbl s).length) (hj : j < (lbl s).length) (h : lN s i = lN s j) : i = j := by
  rcases Nat.lt_trichotomy i j with h1 | h1 | h1
  · have := lN_lt h1 hj; omega
  · exact h1
  · have := lN_lt h1 hi; omega
theorem lN_of {s x : Nat} (hs : s < 65536) (hx : s.testBit x = true) : ∃ j, j < (lbl s).length ∧ lN s j = x := by
  obtain ⟨j, hj, e⟩ := List.getElem_of_mem ((mem_lbl hs).2 hx)
  refine ⟨j, hj, ?_⟩
  unfold lN
  rw [List.getD_eq_getElem?_getD, List.getElem?_eq_getElem hj]
  exact e
theorem lN_zero {s : Nat} (hs : s < 65536) (h : s.testBit 0 = true) : 0 < (lbl s).length ∧ lN s 0 = 0 := by
  obtain ⟨j, hj, e⟩ := lN_of hs h
  refine ⟨by omega, ?_⟩
  rcases Nat.eq_zero_or_pos j with h1 | h1
  · subst h1; exact e
  · have := lN_lt h1 hj; omega
theorem sum_lbM (s : Nat) (g : Nat → Int) (m : Nat) : sumZ (fun j => g ((lbM s m).getD j 0)) (lbM s m).length = sumZ (fun x => if s.testBit x then g x else 0) m := by
  induction m with
  | zero => rfl
  | succ m ih =>
    cases h : s.testBit m with
    | true =>
      rw [lbM_yes h]
      simp only [List.length_append, List.length_singleton, sumZ]
      rw [← ih, h]
      have e : sumZ (fun j => g ((lbM s m ++ [m]).getD j 0)) (lbM s m).length = sumZ (fun j => g ((lbM s m).getD j 0)) (lbM s m).length := sumZ_congr fun j hj => by
        rw [List.getD_eq_getElem?_getD, List.getD_eq_getElem?_getD, List.getElem?_append_left hj]
      rw [e]
      simp
    | false =>
      rw [lbM_no h]
      simp only [sumZ]
      rw [← ih, h]
      simp
theorem sum_lbl {s n : Nat} (hs : s < 2 ^ n) (h16 : n ≤ 16) (g : Nat → Int) (hg : ∀ x, x < n → s.testBit x = false → g x = 0) : sumZ (fun j => g (lN s j)) (lbl s).length = sumZ g n := by
  have h := sum_lbM s g n
  rw [lbM_top hs h16] at h
  refine Eq.trans h (sumZ_congr fun x hx => ?_)
  cases hb : s.testBit x with
  | true => rfl
  | false => rw [hg x hx hb]; rfl
/-- the numbers of the ring of a subring -/
def sbf (f : Nat → Nat → Nat → Int) (s : Nat) (i j k : Nat) : Int := f (lN s i) (lN s j) (lN s k)
theorem sub_dual {n : Nat} {f : Nat → Nat → Nat → Int} (R : Rng n f) {s : Nat} (hS : Sbr n f s) {i : Nat} (hi : i < (lbl s).length) :
    ∃ d, d < (lbl s).length ∧ lN s d = dn n f (lN s i) ∧ dualOf (lbl s).length (sbf f s) i = (d : Nat) ∧ dn (lbl s).length (sbf f s) i = d := by
  have hp := pow_le16 R.h16
  have h6 : s < 65536 := by have := hS.1; omega
  have hb := lN_mem h6 hi
  have hn := bit_lt hS.1 hb
  obtain ⟨d, hd, e⟩ := lN_of h6 (sbr_dual R hS.2.2 hn hb)
  have hz := (lN_zero h6 hS.2.1).2
  have hD : IsDual (lbl s).length (sbf f s) i d := by
    refine ⟨?_, fun k hk hne => ?_⟩
    · show f (lN s i) (lN s d) (lN s 0) = 1
      rw [hz, e]; exact R.d1 _ hn
    · show f (lN s i) (lN s k) (lN s 0) = 0
      rw [hz]
      refine R.d0 _ _ hn (bit_lt hS.1 (lN_mem h6 hk)) fun h => hne ?_
      exact lN_inj hk hd (h.trans e.symm)
  have he := dual_eq hd hD
  exact ⟨d, hd, e, he, by unfold dn; rw [he]; rfl⟩
theorem sub_rng {n : Nat} {f : Nat → Nat → Nat → Int} (R : Rng n f) {s : Nat} (hS : Sbr n f s) : Rng (lbl s).length (sbf f s) := by
  have hp := pow_le16 R.h16
  have h6 : s < 65536 := by have := hS.1; omega
  have hz := lN_zero h6 hS.2.1
  have hN : ∀ {i}, i < (lbl s).length → lN s i < n := fun hi => bit_lt hS.1 (lN_mem h6 hi)
  have hO : ∀ {a b x}, a < (lbl s).length → b < (lbl s).length → x < n → s.testBit x = false → f (lN s a) (lN s b) x = 0 := fun {a b x} ha hb hx h => by
    refine Classical.byContradiction fun hc => ?_
    have := hS.2.2 _ _ x (hN ha) (hN hb) hx (lN_mem h6 ha) (lN_mem h6 hb) hc
    rw [h] at this; cases this
  have hu : ∀ {i k}, i < (lbl s).length → k < (lbl s).length → (lN s i = lN s k ↔ i = k) := fun hi hk => ⟨lN_inj hi hk, fun h => by rw [h]⟩
  refine ⟨hz.1, lbM_len s 16, fun i j k hi hj hk => R.num _ _ _ (hN hi) (hN hj) (hN hk), fun i k hi hk => ?_, fun i k hi hk => ?_, fun i hi => ?_, fun i hi => ?_, fun i hi => ?_, fun i hi => ?_, fun i j hi hj hne => ?_, fun i j k hi hj hk => ?_, fun i j k hi hj hk => ?_, fun i j k l hi hj hk hl => ?_⟩
  · show f (lN s 0) (lN s i) (lN s k) = _
    rw [hz.2, R.unitl _ _ (hN hi) (hN hk)]
    simp only [hu hi hk]
  · show f (lN s i) (lN s 0) (lN s k) = _
    rw [hz.2, R.unitr _ _ (hN hi) (hN hk)]
    simp only [hu hi hk]
  · obtain ⟨d, hd, e, e1, e2⟩ := sub_dual R hS hi
    rw [e2]; exact hd
  · obtain ⟨d, hd, e, e1, e2⟩ := sub_dual R hS hi
    obtain ⟨d2, hd2, e3, e4, e5⟩ := sub_dual R hS hd
    rw [e2, e5]
    refine lN_inj hd2 hi ?_
    rw [e3, e, R.dd _ (hN hi)]
  · obtain ⟨d, hd, e, e1, e2⟩ := sub_dual R hS hi
    rw [e1, e2]
  · obtain ⟨d, hd, e, e1, e2⟩ := sub_dual R hS hi
    rw [e2]
    show f (lN s i) (lN s d) (lN s 0) = 1
    rw [hz.2, e]; exact R.d1 _ (hN hi)
  · obtain ⟨d, hd, e, e1, e2⟩ := sub_dual R hS hi
    rw [e2] at hne
    show f (lN s i) (lN s j) (lN s 0) = 0
    rw [hz.2]
    exact R.d0 _ _ (hN hi) (hN hj) fun h => hne (lN_inj hj hd (h.trans e.symm))
  · obtain ⟨d, hd, e, e1, e2⟩ := sub_dual R hS hi
    rw [e2]
    show f (lN s i) (lN s j) (lN s k) = f (lN s d) (lN s k) (lN s j)
    rw [e]; exact R.turn1 _ _ _ (hN hi) (hN hj) (hN hk)
  · obtain ⟨d, hd, e, e1, e2⟩ := sub_dual R hS hj
    rw [e2]
    show f (lN s i) (lN s j) (lN s k) = f (lN s k) (lN s d) (lN s i)
    rw [e]; exact R.turn2 _ _ _ (hN hi) (hN hj) (hN hk)
  · show sumZ (fun x => f (lN s i) (lN s j) (lN s x) * f (lN s x) (lN s k) (lN s l)) _ = sumZ (fun x => f (lN s j) (lN s k) (lN s x) * f (lN s i) (lN s x) (lN s l)) _
    have a1 := sum_lbl hS.1 R.h16 (fun x => f (lN s i) (lN s j) x * f x (lN s k) (lN s l)) fun x hx h => by
      show f (lN s i) (lN s j) x * f x (lN s k) (lN s l) = 0
      rw [hO hi hj hx h]; simp
    have a2 := sum_lbl hS.1 R.h16 (fun x => f (lN s j) (lN s k) x * f (lN s i) x (lN s l)) fun x hx h => by
      show f (lN s j) (lN s k) x * f (lN s i) x (lN s l) = 0
      rw [hO hj hk hx h]; simp
    exact a1.trans ((R.assoc _ _ _ _ (hN hi) (hN hj) (hN hk) (hN hl)).trans a2.symm)
/-- t is a set of indices of s, as labels -/
def IsUp (s g t : Nat) : Prop := ∀ k, t.testBit k = true ↔ ∃ i, i < (lbl s).length ∧ g.testBit i = true ∧ lN s i = k
theorem up_gen {n : Nat} {f : Nat → Nat → Nat → Int} (R : Rng n f) {s g t : Nat} (hS : Sbr n f s) (hg : IsGen (lbl s).length (sbf f s) (adB (lbl s).length (sbf f s) (allS (lbl s).length)) g) (ht : IsUp s g t) (ht2 : t < 2 ^ n) : IsGen n f (adB n f s) t := by
  have hp := pow_le16 R.h16
  have h6 : s < 65536 := by have := hS.1; omega
  have hz := lN_zero h6 hS.2.1
  have hN : ∀ {i}, i < (lbl s).length → lN s i < n := fun hi => bit_lt hS.1 (lN_mem h6 hi)
  have R' := sub_rng R hS
  have hm := allS_lt (lbl s).length
  refine ⟨⟨ht2, ?_, ?_⟩, ?_, ?_⟩
  · exact (ht 0).2 ⟨0, hz.1, hg.1.2.1, hz.2⟩
  · intro i j k hi hj hk bi bj hf
    obtain ⟨a, ha, ga, rfl⟩ := (ht i).1 bi
    obtain ⟨b, hb, gb, rfl⟩ := (ht j).1 bj
    obtain ⟨c, hc, rfl⟩ := lN_of h6 (hS.2.2 _ _ k hi hj hk (lN_mem h6 ha) (lN_mem h6 hb) hf)
    exact (ht _).2 ⟨c, hc, hg.1.2.2 a b c ha hb hc ga gb hf, rfl⟩
  · intro k hk
    obtain ⟨hkn, i, hi, bi, bd, hf⟩ := (adB_bit R hS.1).1 hk
    obtain ⟨a, ha, rfl⟩ := lN_of h6 bi
    obtain ⟨d, hd, e, e1, e2⟩ := sub_dual R hS ha
    obtain ⟨c, hc, rfl⟩ := lN_of h6 (hS.2.2 _ _ k hi (R.dlt _ hi) hkn bi bd hf)
    refine (ht _).2 ⟨c, hc, hg.2.1 c ((adB_bit R' hm).2 ⟨hc, a, ha, allS_bit.2 ha, allS_bit.2 (by rw [e2]; exact hd), ?_⟩), rfl⟩
    rw [e2]
    show f (lN s a) (lN s d) (lN s c) ≠ 0
    rw [e]; exact hf
  · intro T hT hsub k hk
    obtain ⟨i, hi, gi, rfl⟩ := (ht k).1 hk
    have hU : Sbr (lbl s).length (sbf f s) (bset (fun c => T.testBit (lN s c) = true) (lbl s).length) := by
      refine ⟨bset_lt _ _, (bset_bit _ _ _).2 ⟨hz.1, ?_⟩, fun a b c ha hb hc ba bb hf => (bset_bit _ _ _).2 ⟨hc, ?_⟩⟩
      · rw [hz.2]; exact hT.2.1
      · exact hT.2.2 _ _ _ (hN ha) (hN hb) (hN hc) ((bset_bit _ _ _).1 ba).2 ((bset_bit _ _ _).1 bb).2 hf
    have := hg.2.2 _ hU (fun c hc => by
      obtain ⟨hcm, a, ha, _, _, hf⟩ := (adB_bit R' hm).1 hc
      obtain ⟨d, hd, e, e1, e2⟩ := sub_dual R hS ha
      rw [e2] at hf
      refine (bset_bit _ _ _).2 ⟨hcm, hsub _ ((adB_bit R hS.1).2 ⟨hN hcm, lN s a, hN ha, lN_mem h6 ha, ?_, ?_⟩)⟩
      · rw [← e]; exact lN_mem h6 hd
      · rw [← e]; exact hf) i gi
    exact ((bset_bit _ _ _).1 this).2
/-- the adjoint of a subring -/
noncomputable def adS (n : Nat) (f : Nat → Nat → Nat → Int) (s : Nat) : Nat := genS n f (adB n f s)
/-- the series -/
noncomputable def adI (n : Nat) (f : Nat → Nat → Nat → Int) : Nat → Nat
  | 0 => allS n
  | k + 1 => adS n f (adI n f k)
theorem lt_of_bits {x n : Nat} (h : ∀ k, x.testBit k = true → k < n) : x < 2 ^ n := Nat.lt_pow_two_of_testBit x fun i hi => by
  cases hb : x.testBit i with
  | false => rfl
  | true => have := h i hb; omega
theorem gen_ex {n : Nat} {f : Nat → Nat → Nat → Int} (h0 : 0 < n) {s : Nat} (hs : s < 2 ^ n) : IsGen n f s (genS n f s) := by
  have h : IsGen n f s (bset (fun k => ∀ T, Sbr n f T → subS s T → T.testBit k = true) n) :=
    ⟨⟨bset_lt _ _, (bset_bit _ _ _).2 ⟨h0, fun T hT _ => hT.2.1⟩, fun i j k hi hj hk bi bj hf => (bset_bit _ _ _).2 ⟨hk, fun T hT hs => hT.2.2 i j k hi hj hk (((bset_bit _ _ _).1 bi).2 T hT hs) (((bset_bit _ _ _).1 bj).2 T hT hs) hf⟩⟩, fun k hk => (bset_bit _ _ _).2 ⟨bit_lt hs hk, fun T _ hs' => hs' k hk⟩, fun T hT hs' k hk => ((bset_bit _ _ _).1 hk).2 T hT hs'⟩
  have e := gen_eq h
  rw [← e]; exact h
theorem adB_lt {n : Nat} {f : Nat → Nat → Nat → Int} (R : Rng n f) {s : Nat} (hs : s < 2 ^ n) : adB n f s < 2 ^ n := lt_of_bits fun k hk => ((adB_bit R hs).1 hk).1
theorem adS_gen {n : Nat} {f : Nat → Nat → Nat → Int} (R : Rng n f) {s : Nat} (hs : s < 2 ^ n) : IsGen n f (adB n f s) (adS n f s) := gen_ex R.h0 (adB_lt R hs)
theorem adS_sub {n : Nat} {f : Nat → Nat → Nat → Int} (R : Rng n f) {s : Nat} (hS : Sbr n f s) : subS (adS n f s) s := (adS_gen R hS.1).2.2 s hS fun k hk => by
  obtain ⟨hk, i, hi, bi, bd, hf⟩ := (adB_bit R hS.1).1 hk
  exact hS.2.2 _ _ _ hi (R.dlt _ hi) hk bi bd hf
theorem adI_sbr {n : Nat} {f : Nat → Nat → Nat → Int} (R : Rng n f) (k : Nat) : Sbr n f (adI n f k) := by
  induction k with
  | zero => exact ⟨allS_lt n, allS_bit.2 R.h0, fun _ _ _ _ _ hk _ _ _ => allS_bit.2 hk⟩
  | succ k ih => exact (adS_gen R ih.1).1
theorem adI_pos {n : Nat} {f : Nat → Nat → Nat → Int} (R : Rng n f) (k : Nat) : 1 ≤ adI n f k := by
  have h := (adI_sbr R k).2.1
  rcases Nat.eq_zero_or_pos (adI n f k) with e | e
  · rw [e, Nat.zero_testBit] at h; cases h
  · exact e
theorem adI_desc {n : Nat} {f : Nat → Nat → Nat → Int} (R : Rng n f) : ∀ k, (∀ j, j < k → adI n f (j + 1) ≠ adI n f j) → adI n f k + k ≤ 65535 := by
  intro k
  induction k with
  | zero => intro _; have := allS_lt n; have := pow_le16 R.h16; show allS n + 0 ≤ 65535; omega
  | succ k ih =>
    intro h
    have h1 := ih fun j hj => h j (by omega)
    have h2 := h k (by omega)
    have h3 : adI n f (k + 1) ≤ adI n f k := sub_le (adS_sub R (adI_sbr R k))
    omega
theorem least_ex {P : Nat → Prop} : ∀ m, P m → ∃ k, P k ∧ ∀ j, j < k → ¬ P j := by
  intro m
  induction m using Nat.strongRecOn with
  | _ m ih =>
    intro h
    by_cases c : ∃ j, j < m ∧ P j
    · obtain ⟨j, hj, hp⟩ := c; exact ih j hj hp
    · exact ⟨m, h, fun j hj hp => c ⟨j, hj, hp⟩⟩
/-- the series stands still from k on, and not before -/
def IsTop (n : Nat) (f : Nat → Nat → Nat → Int) (k : Nat) : Prop := adI n f (k + 1) = adI n f k ∧ ∀ j, j < k → ¬ adI n f (j + 1) = adI n f j
open Classical in
noncomputable def sTop (n : Nat) (f : Nat → Nat → Nat → Int) : Nat := if h : ∃ k, IsTop n f k then Classical.choose h else 0
theorem sTop_is {n : Nat} {f : Nat → Nat → Nat → Int} (R : Rng n f) : IsTop n f (sTop n f) := by
  have hx : ∃ k, IsTop n f k := by
    refine Classical.byContradiction fun hc => ?_
    have hno : ∀ j, ¬ adI n f (j + 1) = adI n f j := fun j hj => hc (least_ex (P := fun j => adI n f (j + 1) = adI n f j) j hj)
    have := adI_desc R 70000 fun j _ => hno j
    omega
  unfold sTop
  rw [dif_pos hx]
  exact Classical.choose_spec hx
theorem sTop_le {n : Nat} {f : Nat → Nat → Nat → Int} (R : Rng n f) : sTop n f + 1 ≤ 65535 := by
  have h1 := adI_desc R _ (sTop_is R).2
  have h2 := adI_pos R (sTop n f)
  omega
/-- the first k sets of the series -/
noncomputable def srL (n : Nat) (f : Nat → Nat → Nat → Int) (k : Nat) : List Nat := (List.range k).map (adI n f)
theorem srL_succ (n : Nat) (f : Nat → Nat → Nat → Int) (k : Nat) : srL n f (k + 1) = srL n f k ++ [adI n f k] := by
  unfold srL
  rw [List.range_succ, List.map_append]; rfl
theorem srL_len (n : Nat) (f : Nat → Nat → Nat → Int) (k : Nat) : (srL n f k).length = k := by simp [srL]
theorem srL_pre (n : Nat) (f : Nat → Nat → Nat → Int) {i j : Nat} (h : i ≤ j) : srL n f i <+: srL n f j := by
  obtain ⟨d, rfl⟩ : ∃ d, j = i + d := ⟨j - i, by omega⟩
  induction d with
  | zero => exact List.prefix_refl _
  | succ d ih => rw [← Nat.add_assoc, srL_succ]; exact (ih (by omega)).trans (List.prefix_append _ _)
theorem srL_get (n : Nat) (f : Nat → Nat → Nat → Int) {i j : Nat} (h : i < j) : (srL n f j).getD i 0 = adI n f i := by
  unfold srL
  rw [List.getD_eq_getElem?_getD, List.getElem?_map, List.getElem?_range h]
  rfl
end Go.Proofs.Ytpfodikmidgpmaa
