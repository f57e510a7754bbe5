/- Dihedral rings: the mathematics. -/
import Derived.Test.YtmdmojklagmmiaaFmC
namespace Go.Proofs.Ytmdmojklagmmiaa
open Go.RowKit
set_option linter.unusedSimpArgs false
set_option linter.unusedVariables false
/-- the labels that are lines, and the orders of their group -/
def dL (n : Nat) : Nat := if n % 2 = 0 then 4 else 2
def dM (n : Nat) : Nat := if n % 2 = 0 then 2 else 1
def twoO (_ : Nat) : Int := 2
theorem dL_cases (n : Nat) : (n % 2 = 0 ∧ dL n = 4 ∧ dM n = 2) ∨ (n % 2 = 1 ∧ dL n = 2 ∧ dM n = 1) := by
  unfold dL dM
  by_cases h : n % 2 = 0
  · left; simp [h]
  · right; have : n % 2 = 1 := by omega
    simp [this]
theorem dL_prod (n : Nat) : prodO twoO (dM n) = dL n := by
  rcases dL_cases n with ⟨_, h1, h2⟩ | ⟨_, h1, h2⟩ <;> rw [h1, h2] <;> rfl
theorem addO_comm (o : Nat → Int) : ∀ (m : Nat) (x y : Int), addO o m x y = addO o m y x
  | 0, _, _ => rfl
  | m + 1, x, y => by rw [addO, addO, addO_comm o m, Int.add_comm (x % o m)]
def tuH (n h : Nat) : Nat := if n < 2 * h then n - h else h
/-- the labels of V(h) -/
def tuL (n h : Nat) : List Nat := if tuH n h = 0 then [0, 1] else if 2 * tuH n h = n then [2, 3] else [dL n - 1 + tuH n h]
theorem tuL_len (n h : Nat) : 1 ≤ (tuL n h).length ∧ (tuL n h).length ≤ 2 := by
  unfold tuL; split
  · simp
  · split <;> simp
/-- the number of labels -/
def dR (n : Nat) : Nat := dL n + (n - 1) / 2
theorem tuL_lt {n h : Nat} (hn : 1 ≤ n) (hh : h ≤ n) : ∀ z ∈ tuL n h, z < dR n := by
  intro z hz
  have ht : tuH n h ≤ n / 2 := by unfold tuH; split <;> omega
  unfold tuL at hz
  unfold dR
  rcases dL_cases n with ⟨e, h1, h2⟩ | ⟨e, h1, h2⟩
  · rw [h1] at hz ⊢
    split at hz
    · simp at hz; omega
    · split at hz
      · simp at hz; omega
      · simp at hz; omega
  · rw [h1] at hz ⊢
    split at hz
    · simp at hz; omega
    · split at hz
      · simp at hz; omega
      · simp at hz; omega
/-- how often a label is in a list, so far -/
def cn (l : List Nat) (q z : Nat) : Int := ((l.take q).count z : Nat)
theorem cn_zero (l : List Nat) (z : Nat) : cn l 0 z = 0 := rfl
theorem cn_step {l : List Nat} {q : Nat} (hq : q < l.length) (z : Nat) : cn l (q + 1) z = cn l q z + if z = l.getD q 0 then 1 else 0 := by
  unfold cn
  rw [List.take_succ_eq_append_getElem hq, List.count_append, List.count_singleton]
  have e : l.getD q 0 = l[q] := by simp [List.getD, hq]
  rw [e]
  by_cases h : z = l[q]
  · simp [h]
  · have : ¬ (l[q] == z) = true := by simp; exact fun e => h e.symm
    simp [h, this]
theorem cn_bd (l : List Nat) (q z : Nat) : 0 ≤ cn l q z ∧ cn l q z ≤ l.length := by
  unfold cn
  have h1 := List.count_le_length (a := z) (l := l.take q)
  have h2 : (l.take q).length ≤ l.length := by rw [List.length_take]; omega
  omega
/-- how often a label is in a list -/
def cnA (l : List Nat) (z : Nat) : Int := cn l l.length z
theorem cnA_append (l k : List Nat) (z : Nat) : cnA (l ++ k) z = cnA l z + cnA k z := by
  unfold cnA cn
  rw [List.take_length, List.take_length, List.take_length, List.count_append]; omega
/-- the list of a line and a plane -/
def lnL (n a h : Nat) : List Nat := if 2 ≤ a then tuL n (n / 2 - h) else tuL n h
def dst (a b : Nat) : Nat := if a ≤ b then b - a else a - b
/-- the list of two planes -/
def plL (n h k : Nat) : List Nat := tuL n (h + k) ++ tuL n (dst h k)
/-- the table of a dihedral ring -/
def diF (n i j z : Nat) : Int :=
  if i < dL n ∧ j < dL n then grpF twoO (dM n) (dL n) i j z
  else if dL n ≤ i ∧ dL n ≤ j then cnA (plL n (i - dL n + 1) (j - dL n + 1)) z
  else if i < dL n then cnA (lnL n i (j - dL n + 1)) z else cnA (lnL n j (i - dL n + 1)) z
theorem diF_comm_line (n a v z : Nat) (ha : a < dL n) (hv : dL n ≤ v) : diF n a v z = cnA (lnL n a (v - dL n + 1)) z ∧ diF n v a z = cnA (lnL n a (v - dL n + 1)) z := by
  unfold diF
  constructor
  · rw [if_neg (by omega), if_neg (by omega), if_pos ha]
  · rw [if_neg (by omega), if_neg (by omega), if_neg (by omega)]
theorem diF_plane (n u v z : Nat) (hu : dL n ≤ u) (hv : dL n ≤ v) : diF n u v z = cnA (plL n (u - dL n + 1) (v - dL n + 1)) z := by
  unfold diF
  rw [if_neg (by omega), if_pos ⟨hu, hv⟩]
/-- the table, h planes done, and in the next one a lines, q labels of the next, k planes, r labels of the next -/
def diP (n h a q k r : Nat) (x y z : Nat) : Int :=
  if x < dL n ∧ y < dL n then grpF twoO (dM n) (dL n) x y z
  else if dL n ≤ x ∧ dL n ≤ y then
    (if x - dL n < h ∨ (x - dL n = h ∧ y - dL n < k) then cnA (plL n (x - dL n + 1) (y - dL n + 1)) z
     else if x - dL n = h ∧ y - dL n = k then cn (plL n (h + 1) (k + 1)) r z else 0)
  else
    (if max x y - dL n < h ∨ (max x y - dL n = h ∧ min x y < a) then cnA (lnL n (min x y) (max x y - dL n + 1)) z
     else if max x y - dL n = h ∧ min x y = a then cn (lnL n a (h + 1)) q z else 0)
theorem diP_bd (n h a q k r x y z : Nat) : 0 ≤ diP n h a q k r x y z ∧ diP n h a q k r x y z ≤ 100 := by
  have hl : ∀ a h, (lnL n a h).length ≤ 2 := fun a h => by unfold lnL; split <;> exact (tuL_len _ _).2
  have hp : ∀ h k, (plL n h k).length ≤ 4 := fun h k => by
    unfold plL; have := (tuL_len n (h + k)).2; have := (tuL_len n (dst h k)).2; simp; omega
  have hg : 0 ≤ grpF twoO (dM n) (dL n) x y z ∧ grpF twoO (dM n) (dL n) x y z ≤ 1 := by unfold grpF; split <;> omega
  unfold diP
  split
  · omega
  · split
    · split
      · have := cn_bd (plL n (x - dL n + 1) (y - dL n + 1)) (plL n (x - dL n + 1) (y - dL n + 1)).length z
        have := hp (x - dL n + 1) (y - dL n + 1)
        unfold cnA; omega
      · split
        · have := cn_bd (plL n (h + 1) (k + 1)) r z
          have := hp (h + 1) (k + 1)
          omega
        · omega
    · split
      · have := cn_bd (lnL n (min x y) (max x y - dL n + 1)) (lnL n (min x y) (max x y - dL n + 1)).length z
        have := hl (min x y) (max x y - dL n + 1)
        unfold cnA; omega
      · split
        · have := cn_bd (lnL n a (h + 1)) q z
          have := hl a (h + 1)
          omega
        · omega
theorem diP_start (n x y z : Nat) : grpF twoO (dM n) (dL n) x y z = diP n 0 0 0 0 0 x y z := by
  unfold diP
  by_cases h : x < dL n ∧ y < dL n
  · rw [if_pos h]
  · rw [if_neg h, cn_zero, cn_zero]
    have : grpF twoO (dM n) (dL n) x y z = 0 := by unfold grpF; rw [if_neg (by omega)]
    rw [this]
    split
    · rw [if_neg (by omega)]; split <;> rfl
    · rw [if_neg (by omega)]; split <;> rfl
theorem diP_list (n h a : Nat) : diP n h a (lnL n a (h + 1)).length 0 0 = diP n h (a + 1) 0 0 0 := by
  funext x y z
  unfold diP
  by_cases h1 : x < dL n ∧ y < dL n
  · rw [if_pos h1, if_pos h1]
  · rw [if_neg h1, if_neg h1]
    by_cases h2 : dL n ≤ x ∧ dL n ≤ y
    · rw [if_pos h2, if_pos h2]
    · rw [if_neg h2, if_neg h2]
      by_cases h3 : max x y - dL n < h ∨ (max x y - dL n = h ∧ min x y < a)
      · rw [if_pos h3, if_pos (by omega)]
      · rw [if_neg h3]
        by_cases h4 : max x y - dL n = h ∧ min x y = a
        · rw [if_pos h4, if_pos (by omega)]
          rw [h4.1, h4.2]; rfl
        · rw [if_neg h4, if_neg (by omega), cn_zero]; split <;> rfl
theorem diP_plane (n h k : Nat) : diP n h (dL n) 0 k (plL n (h + 1) (k + 1)).length = diP n h (dL n) 0 (k + 1) 0 := by
  funext x y z
  unfold diP
  by_cases h1 : x < dL n ∧ y < dL n
  · rw [if_pos h1, if_pos h1]
  · rw [if_neg h1, if_neg h1]
    by_cases h2 : dL n ≤ x ∧ dL n ≤ y
    · rw [if_pos h2, if_pos h2]
      by_cases h3 : x - dL n < h ∨ (x - dL n = h ∧ y - dL n < k)
      · rw [if_pos h3, if_pos (by omega)]
      · rw [if_neg h3]
        by_cases h4 : x - dL n = h ∧ y - dL n = k
        · rw [if_pos h4, if_pos (by omega)]
          rw [h4.1, h4.2]; rfl
        · rw [if_neg h4, if_neg (by omega), cn_zero]; split <;> rfl
    · rw [if_neg h2, if_neg h2]
theorem diP_round (n h t x y z : Nat) (hx : x < dL n + t) (hy : y < dL n + t) : diP n h (dL n) 0 t 0 x y z = diP n (h + 1) 0 0 0 0 x y z := by
  unfold diP
  by_cases h1 : x < dL n ∧ y < dL n
  · rw [if_pos h1, if_pos h1]
  · rw [if_neg h1, if_neg h1, cn_zero, cn_zero, cn_zero, cn_zero]
    by_cases h2 : dL n ≤ x ∧ dL n ≤ y
    · rw [if_pos h2, if_pos h2]
      by_cases h3 : x - dL n < h + 1
      · rw [if_pos (by omega), if_pos (by omega)]
      · rw [if_neg (show ¬ (x - dL n < h ∨ (x - dL n = h ∧ y - dL n < t)) by omega), if_neg (show ¬ (x - dL n < h + 1 ∨ (x - dL n = h + 1 ∧ y - dL n < 0)) by omega), ite_self, ite_self]
    · rw [if_neg h2, if_neg h2]
      by_cases h3 : max x y - dL n < h + 1
      · rw [if_pos (by omega), if_pos (by omega)]
      · rw [if_neg (show ¬ (max x y - dL n < h ∨ (max x y - dL n = h ∧ min x y < dL n)) by omega), if_neg (show ¬ (max x y - dL n < h + 1 ∨ (max x y - dL n = h + 1 ∧ min x y < 0)) by omega), ite_self, ite_self]
theorem diP_end (n t x y z : Nat) (hx : x < dL n + t) (hy : y < dL n + t) : diP n t 0 0 0 0 x y z = diF n x y z := by
  unfold diP diF
  by_cases h1 : x < dL n ∧ y < dL n
  · rw [if_pos h1, if_pos h1]
  · rw [if_neg h1, if_neg h1]
    by_cases h2 : dL n ≤ x ∧ dL n ≤ y
    · rw [if_pos h2, if_pos h2, if_pos (by omega)]
    · rw [if_neg h2, if_neg h2, if_pos (by omega)]
      by_cases h3 : x < dL n
      · rw [if_pos h3, show max x y = y by omega, show min x y = x by omega]
      · rw [if_neg h3, show max x y = x by omega, show min x y = y by omega]
theorem diP_line_set {n h a q p : Nat} (ha : a < dL n) (hq : q < (lnL n a (h + 1)).length) (hp : (lnL n a (h + 1)).getD q 0 = p) (x y z : Nat) :
    (if x = dL n + h ∧ y = a ∧ z = p then diP n h a q 0 0 (dL n + h) a p + 1 else if x = a ∧ y = dL n + h ∧ z = p then diP n h a q 0 0 a (dL n + h) p + 1 else diP n h a q 0 0 x y z) = diP n h a (q + 1) 0 0 x y z := by
  have e : ∀ z, cn (lnL n a (h + 1)) (q + 1) z = cn (lnL n a (h + 1)) q z + if z = p then 1 else 0 := fun z => by rw [cn_step hq, hp]
  have c1 : ∀ q z, diP n h a q 0 0 (dL n + h) a z = cn (lnL n a (h + 1)) q z := fun q z => by
    unfold diP
    rw [if_neg (by omega), if_neg (by omega), if_neg (by omega), if_pos (by omega)]
  have c2 : ∀ q z, diP n h a q 0 0 a (dL n + h) z = cn (lnL n a (h + 1)) q z := fun q z => by
    unfold diP
    rw [if_neg (by omega), if_neg (by omega), if_neg (by omega), if_pos (by omega)]
  by_cases h1 : x = dL n + h ∧ y = a
  · obtain ⟨rfl, rfl⟩ := h1
    by_cases h2 : z = p
    · subst h2
      rw [if_pos ⟨rfl, rfl, rfl⟩, c1, c1, e, if_pos rfl]
    · rw [if_neg (fun c => h2 c.2.2), if_neg (fun c => h2 c.2.2), c1, c1, e, if_neg h2]; omega
  · rw [if_neg (fun c => h1 ⟨c.1, c.2.1⟩)]
    by_cases h3 : x = a ∧ y = dL n + h
    · obtain ⟨rfl, rfl⟩ := h3
      by_cases h2 : z = p
      · subst h2
        rw [if_pos ⟨rfl, rfl, rfl⟩, c2, c2, e, if_pos rfl]
      · rw [if_neg (fun c => h2 c.2.2), c2, c2, e, if_neg h2]; omega
    · rw [if_neg (fun c => h3 ⟨c.1, c.2.1⟩)]
      unfold diP
      by_cases g1 : x < dL n ∧ y < dL n
      · rw [if_pos g1, if_pos g1]
      · rw [if_neg g1, if_neg g1]
        by_cases g2 : dL n ≤ x ∧ dL n ≤ y
        · rw [if_pos g2, if_pos g2]
        · rw [if_neg g2, if_neg g2]
          by_cases g3 : max x y - dL n < h ∨ (max x y - dL n = h ∧ min x y < a)
          · rw [if_pos g3, if_pos g3]
          · rw [if_neg g3, if_neg g3, if_neg (by omega), if_neg (by omega)]
theorem diP_plane_set {n h k r p : Nat} (hr : r < (plL n (h + 1) (k + 1)).length) (hp : (plL n (h + 1) (k + 1)).getD r 0 = p) (x y z : Nat) :
    (if x = dL n + h ∧ y = dL n + k ∧ z = p then diP n h (dL n) 0 k r (dL n + h) (dL n + k) p + 1 else diP n h (dL n) 0 k r x y z) = diP n h (dL n) 0 k (r + 1) x y z := by
  have e : ∀ z, cn (plL n (h + 1) (k + 1)) (r + 1) z = cn (plL n (h + 1) (k + 1)) r z + if z = p then 1 else 0 := fun z => by rw [cn_step hr, hp]
  have c1 : ∀ r z, diP n h (dL n) 0 k r (dL n + h) (dL n + k) z = cn (plL n (h + 1) (k + 1)) r z := fun r z => by
    unfold diP
    rw [if_neg (by omega), if_pos (by omega), if_neg (by omega), if_pos (by omega)]
  by_cases h1 : x = dL n + h ∧ y = dL n + k
  · obtain ⟨rfl, rfl⟩ := h1
    by_cases h2 : z = p
    · subst h2
      rw [if_pos ⟨rfl, rfl, rfl⟩, c1, c1, e, if_pos rfl]
    · rw [if_neg (fun c => h2 c.2.2), c1, c1, e, if_neg h2]; omega
  · rw [if_neg (fun c => h1 ⟨c.1, c.2.1⟩)]
    unfold diP
    by_cases g1 : x < dL n ∧ y < dL n
    · rw [if_pos g1, if_pos g1]
    · rw [if_neg g1, if_neg g1]
      by_cases g2 : dL n ≤ x ∧ dL n ≤ y
      · rw [if_pos g2, if_pos g2]
        by_cases g3 : x - dL n < h ∨ (x - dL n = h ∧ y - dL n < k)
        · rw [if_pos g3, if_pos g3]
        · rw [if_neg g3, if_neg g3, if_neg (by omega), if_neg (by omega)]
      · rw [if_neg g2, if_neg g2]
theorem diF_bd (n x y z : Nat) : 0 ≤ diF n x y z ∧ diF n x y z ≤ 100 := by
  rw [← diP_end n (x + y + 1) x y z (by omega) (by omega)]
  exact diP_bd _ _ _ _ _ _ _ _ _
end Go.Proofs.Ytmdmojklagmmiaa
