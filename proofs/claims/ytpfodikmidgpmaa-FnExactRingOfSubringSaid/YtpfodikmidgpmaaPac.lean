/- Merged: Prm, Adv, Cmp. -/
import Derived.Test.YtpfodikmidgpmaaOpp
/- Permutations of labels; least tables. -/
namespace Go.Proofs.Ytpfodikmidgpmaa
open Go.RowKit
/-- how far a list descends at its end -/
def upI (l : List Nat) : Nat → Nat
  | 0 => 0
  | k + 1 => if l.getD (k + 1) 0 < l.getD k 0 then upI l k else k + 1
/-- the last place at which a list has at least a -/
def dnJ (l : List Nat) (a : Nat) : Nat → Nat
  | 0 => 0
  | k + 1 => if l.getD (k + 1) 0 < a then dnJ l a k else k + 1
/-- the next list with the same numbers -/
def nextP (l : List Nat) : Option (List Nat) :=
  if upI l (l.length - 1) = 0 then none else
    let i := upI l (l.length - 1) - 1
    let j := dnJ l (l.getD i 0) (l.length - 1)
    let m := (l.set i (l.getD j 0)).set j (l.getD i 0)
    some (m.take (i + 1) ++ (m.drop (i + 1)).reverse)
def orbit : Nat → List Nat → List (List Nat)
  | 0, l => [l]
  | f + 1, l => l :: match nextP l with
    | none => []
    | some m => orbit f m
/-- all lists that go on with s by f more numbers of 1..n-1 -/
def perF (n : Nat) : Nat → List Nat → List (List Nat)
  | 0, s => [s]
  | f + 1, s => ((List.range' 1 (n - 1)).filter fun i => !s.contains i).flatMap fun i => perF n f (s ++ [i])
def per (n : Nat) : List (List Nat) := perF n (n - 1) [0]
theorem orbit_per : ∀ n, 1 ≤ n → n ≤ 7 → (orbit 720 (List.range' 1 (n - 1))).map (0 :: ·) = per n := by
  intro n h1 h2
  obtain rfl | rfl | rfl | rfl | rfl | rfl | rfl : n = 1 ∨ n = 2 ∨ n = 3 ∨ n = 4 ∨ n = 5 ∨ n = 6 ∨ n = 7 := by omega
  all_goals decide +kernel
def invL (n : Nat) (l : List Nat) : List Nat := (List.range n).map fun x => l.idxOf x
def goodL (n : Nat) (l : List Nat) : Bool := l.length == n && l.getD 0 1 == 0 && (List.range n).all fun i => decide (l.getD i 0 < n) && l.getD ((invL n l).getD i 0) 0 == i && (invL n l).getD (l.getD i 0) 0 == i && decide ((invL n l).getD i 0 < n)
theorem per_good : ∀ n, 1 ≤ n → n ≤ 7 → (per n).all (goodL n) = true := by
  intro n h1 h2
  obtain rfl | rfl | rfl | rfl | rfl | rfl | rfl : n = 1 ∨ n = 2 ∨ n = 3 ∨ n = 4 ∨ n = 5 ∨ n = 6 ∨ n = 7 := by omega
  all_goals decide +kernel
theorem mem_perF {n : Nat} : ∀ (f : Nat) (s l : List Nat), (∃ t, l = s ++ t ∧ t.length = f ∧ (∀ x ∈ t, 1 ≤ x ∧ x < n ∧ x ∉ s) ∧ t.Nodup) → l ∈ perF n f s
  | 0, s, l, ⟨t, h1, h2, _, _⟩ => by
    obtain rfl := List.eq_nil_of_length_eq_zero h2
    rw [h1]; simp [perF]
  | f + 1, s, l, ⟨t, h1, h2, h3, h4⟩ => by
    match t, h2 with
    | x :: r, h2 =>
      have hx := h3 x (by simp)
      rw [List.nodup_cons] at h4
      simp only [perF, List.mem_flatMap, List.mem_filter, List.mem_range'_1]
      refine ⟨x, ⟨⟨hx.1, by omega⟩, by simpa using hx.2.2⟩, mem_perF f _ l ⟨r, by rw [h1]; simp, by simpa using h2, fun y hy => ?_, h4.2⟩⟩
      obtain ⟨a, b, c⟩ := h3 y (by simp [hy])
      refine ⟨a, b, fun h => ?_⟩
      rw [List.mem_append] at h
      rcases h with h | h
      · exact c h
      · rw [List.mem_singleton] at h; exact h4.1 (h ▸ hy)
theorem per_mem {n : Nat} (h1 : 1 ≤ n) {l : List Nat} (hl : l.length = n) (h0 : l.getD 0 1 = 0) (hb : ∀ i, i < n → l.getD i 0 < n) (hi : ∀ i j, i < n → j < n → l.getD i 0 = l.getD j 0 → i = j) : l ∈ per n := by
  match l, hl with
  | x :: r, hl =>
    have hx : x = 0 := by simpa using h0
    subst hx
    have at_ : ∀ (y : Nat), y ∈ r → ∃ i, i < r.length ∧ (0 :: r).getD (i + 1) 0 = y := by
      intro y hy
      obtain ⟨i, hi', e⟩ := List.getElem_of_mem hy
      exact ⟨i, hi', by simp [List.getD, hi', e]⟩
    have hl' : r.length + 1 = n := by simpa using hl
    refine mem_perF (n - 1) [0] _ ⟨r, rfl, by omega, fun y hy => ?_, ?_⟩
    · obtain ⟨i, hi', e⟩ := at_ y hy
      have := hb (i + 1) (by omega)
      have h2 : y ≠ 0 := fun h => by
        have := hi (i + 1) 0 (by omega) (by omega) (by rw [e, h]; rfl)
        omega
      exact ⟨by omega, by omega, by simpa using h2⟩
    · rw [List.nodup_iff_pairwise_ne, List.pairwise_iff_getElem]
      intro i j hi' hj' hij e
      have := hi (i + 1) (j + 1) (by omega) (by omega) (by simp [List.getD, hi', hj', e])
      omega
theorem goodL_t {n : Nat} {l : List Nat} (h : goodL n l = true) : l.length = n ∧ l.getD 0 1 = 0 ∧ ∀ i, i < n → l.getD i 0 < n ∧ l.getD ((invL n l).getD i 0) 0 = i ∧ (invL n l).getD (l.getD i 0) 0 = i ∧ (invL n l).getD i 0 < n := by
  simp only [goodL, Bool.and_eq_true, beq_iff_eq, List.all_eq_true, List.mem_range, decide_eq_true_eq] at h
  exact ⟨h.1.1, h.1.2, fun i hi => by have := h.2 i hi; exact ⟨this.1.1.1, this.1.1.2, this.1.2, this.2⟩⟩
/-- the inverse of a permutation is one, too -/
theorem per_inv {n : Nat} (h1 : 1 ≤ n) (h2 : n ≤ 7) {l : List Nat} (h : l ∈ per n) : invL n l ∈ per n := by
  obtain ⟨a, b, c⟩ := goodL_t (List.all_eq_true.1 (per_good n h1 h2) l h)
  have h0 : l.getD 0 0 = 0 := by
    match l, a with
    | [], a => simp at a; omega
    | x :: r, _ => simpa using b
  have z := (c 0 (by omega)).2.2.1
  rw [h0] at z
  refine per_mem h1 (by simp [invL]) ?_ (fun i hi => (c i hi).2.2.2) fun i j hi hj e => ?_
  · have : (invL n l).length = n := by simp [invL]
    match hm : invL n l, this with
    | [], this => simp at this; omega
    | x :: r, _ => rw [hm] at z; simpa using z
  · have x := (c i hi).2.1
    have y := (c j hj).2.1
    rw [e, y] at x; exact x.symm
/-- a place of a table of tables that comes before another one -/
def bef (a b c i j k : Nat) : Prop := a < i ∨ (a = i ∧ (b < j ∨ (b = j ∧ c < k)))
/-- lexicographically less -/
def ltT (n : Nat) (F G : Nat → Nat → Nat → Int) : Prop := ∃ i j k, i < n ∧ j < n ∧ k < n ∧ (∀ a b c, a < n → b < n → c < n → bef a b c i j k → F a b c = G a b c) ∧ F i j k < G i j k
def eqT (n : Nat) (F G : Nat → Nat → Nat → Int) : Prop := ∀ i j k, i < n → j < n → k < n → F i j k = G i j k
theorem ltT_trans {n : Nat} {F G H : Nat → Nat → Nat → Int} (h : ltT n F G) (h' : ltT n G H) : ltT n F H := by
  obtain ⟨i, j, k, hi, hj, hk, he, hl⟩ := h
  obtain ⟨i', j', k', hi', hj', hk', he', hl'⟩ := h'
  have tri : bef i j k i' j' k' ∨ bef i' j' k' i j k ∨ (i = i' ∧ j = j' ∧ k = k') := by unfold bef; omega
  rcases tri with h | h | ⟨rfl, rfl, rfl⟩
  · refine ⟨i, j, k, hi, hj, hk, fun a b c ha hb hc hab => ?_, ?_⟩
    · rw [he a b c ha hb hc hab]; exact he' a b c ha hb hc (by unfold bef at *; omega)
    · rw [← he' i j k hi hj hk h]; exact hl
  · refine ⟨i', j', k', hi', hj', hk', fun a b c ha hb hc hab => ?_, ?_⟩
    · rw [he a b c ha hb hc (by unfold bef at *; omega)]; exact he' a b c ha hb hc hab
    · rw [he i' j' k' hi' hj' hk' h]; exact hl'
  · refine ⟨i, j, k, hi, hj, hk, fun a b c ha hb hc hab => ?_, by omega⟩
    rw [he a b c ha hb hc hab]; exact he' a b c ha hb hc hab
theorem eqT_not {n : Nat} {F G : Nat → Nat → Nat → Int} (h : eqT n F G) : ¬ ltT n F G := by
  rintro ⟨i, j, k, hi, hj, hk, _, hl⟩
  have := h i j k hi hj hk; omega
theorem ltT_asym {n : Nat} {F G : Nat → Nat → Nat → Int} (h : ltT n F G) : ¬ ltT n G F := fun h' => eqT_not (fun _ _ _ _ _ _ => rfl) (ltT_trans h h')
theorem ltT_cong {n : Nat} {F F' G G' : Nat → Nat → Nat → Int} (h : ltT n F G) (h1 : eqT n F F') (h2 : eqT n G G') : ltT n F' G' := by
  obtain ⟨i, j, k, hi, hj, hk, he, hl⟩ := h
  exact ⟨i, j, k, hi, hj, hk, fun a b c ha hb hc hab => by rw [← h1 a b c ha hb hc, ← h2 a b c ha hb hc]; exact he a b c ha hb hc hab, by rw [← h1 i j k hi hj hk, ← h2 i j k hi hj hk]; exact hl⟩
theorem eqT.symm {n : Nat} {F G : Nat → Nat → Nat → Int} (h : eqT n F G) : eqT n G F := fun i j k hi hj hk => (h i j k hi hj hk).symm
theorem ltT_tri {n : Nat} {F G : Nat → Nat → Nat → Int} (h1 : ¬ ltT n F G) (h2 : ¬ ltT n G F) : eqT n F G := by
  have row : ∀ i, i ≤ n → ∀ a b c, a < i → b < n → c < n → F a b c = G a b c := by
    intro i
    induction i with
    | zero => intro _ a b c ha; omega
    | succ i ih =>
      intro hi a b c ha hb hc
      by_cases e : a < i
      · exact ih (by omega) a b c e hb hc
      obtain rfl : a = i := by omega
      have col : ∀ j, j ≤ n → ∀ b c, b < j → c < n → F a b c = G a b c := by
        intro j
        induction j with
        | zero => intro _ b c hb; omega
        | succ j ihj =>
          intro hj b c hb hc
          by_cases e : b < j
          · exact ihj (by omega) b c e hc
          obtain rfl : b = j := by omega
          have num : ∀ k, k ≤ n → ∀ c, c < k → F a b c = G a b c := by
            intro k
            induction k with
            | zero => intro _ c hc; omega
            | succ k ihk =>
              intro hk c hc
              by_cases e : c < k
              · exact ihk (by omega) c e
              obtain rfl : c = k := by omega
              have hbf : ∀ a' b' c', a' < n → b' < n → c' < n → bef a' b' c' a b c → F a' b' c' = G a' b' c' := by
                intro a' b' c' _ hb' hc' hbe
                rcases hbe with h | ⟨rfl, h | ⟨rfl, h⟩⟩
                · exact ih (by omega) a' b' c' h hb' hc'
                · exact ihj (by omega) b' c' h hc'
                · exact ihk (by omega) c' h
              by_cases e1 : F a b c < G a b c
              · exact absurd ⟨a, b, c, by omega, by omega, by omega, hbf, e1⟩ h1
              · by_cases e2 : G a b c < F a b c
                · exact absurd ⟨a, b, c, by omega, by omega, by omega, fun a' b' c' p q r s => (hbf a' b' c' p q r s).symm, e2⟩ h2
                · omega
          exact num n (Nat.le_refl _) c hc
      exact col n (Nat.le_refl _) b c hb hc
  exact fun i j k hi hj hk => row n (Nat.le_refl _) i j k hi hj hk
/-- the table whose label i is the label p i -/
def ren (f : Nat → Nat → Nat → Int) (p : List Nat) (i j k : Nat) : Int := f (p.getD i 0) (p.getD j 0) (p.getD k 0)
def isLeast (n : Nat) (f : Nat → Nat → Nat → Int) (p : List Nat) : Prop := p ∈ per n ∧ ∀ q, q ∈ per n → ¬ ltT n (ren f q) (ren f p)
theorem isLeast_eq {n : Nat} {f : Nat → Nat → Nat → Int} {p q : List Nat} (h : isLeast n f p) (h' : isLeast n f q) : eqT n (ren f p) (ren f q) := ltT_tri (h'.2 p h.1) (h.2 q h'.1)
open Classical in
noncomputable def leastP (n : Nat) (f : Nat → Nat → Nat → Int) : List Nat := if h : ∃ p, isLeast n f p then Classical.choose h else []
theorem leastP_eq {n : Nat} {f : Nat → Nat → Nat → Int} {p : List Nat} (h : isLeast n f p) : eqT n (ren f p) (ren f (leastP n f)) := by
  have h1 : ∃ p, isLeast n f p := ⟨p, h⟩
  unfold leastP
  rw [dif_pos h1]
  exact isLeast_eq h (Classical.choose_spec h1)
theorem per_len : ∀ n, 1 ≤ n → n ≤ 7 → (per n).length ≤ 720 := by
  intro n h1 h2
  obtain rfl | rfl | rfl | rfl | rfl | rfl | rfl : n = 1 ∨ n = 2 ∨ n = 3 ∨ n = 4 ∨ n = 5 ∨ n = 6 ∨ n = 7 := by omega
  all_goals decide +kernel
theorem per_t {n : Nat} (h1 : 1 ≤ n) (h2 : n ≤ 7) {l : List Nat} (h : l ∈ per n) : l.length = n ∧ l.getD 0 1 = 0 ∧ ∀ i, i < n → l.getD i 0 < n ∧ l.getD ((invL n l).getD i 0) 0 = i ∧ (invL n l).getD (l.getD i 0) 0 = i ∧ (invL n l).getD i 0 < n := goodL_t (List.all_eq_true.1 (per_good n h1 h2) l h)
theorem per_inv2 {n : Nat} (h1 : 1 ≤ n) (h2 : n ≤ 7) {l : List Nat} (h : l ∈ per n) : ∀ x, x < n → (invL n (invL n l)).getD x 0 = l.getD x 0 := by
  intro x hx
  obtain ⟨_, _, c⟩ := per_t h1 h2 h
  obtain ⟨_, _, c'⟩ := per_t h1 h2 (per_inv h1 h2 h)
  have := (c' (l.getD x 0) (c x hx).1).2.2.1
  rw [(c x hx).2.2.1] at this
  exact this
theorem per_inj {n : Nat} (h1 : 1 ≤ n) (h2 : n ≤ 7) {l : List Nat} (h : l ∈ per n) {i j : Nat} (hi : i < n) (hj : j < n) (e : l.getD i 0 = l.getD j 0) : i = j := by
  obtain ⟨_, _, c⟩ := per_t h1 h2 h
  have x := (c i hi).2.2.1
  have y := (c j hj).2.2.1
  rw [e, y] at x; exact x.symm
theorem orbit_none {f : Nat} {l : List Nat} (h : nextP l = none) : orbit f l = [l] := by
  cases f with
  | zero => rfl
  | succ f => simp [orbit, h]
theorem orbit_some {f : Nat} {l m : List Nat} (h : nextP l = some m) : orbit (f + 1) l = l :: orbit f m := by simp [orbit, h]
end Go.Proofs.Ytpfodikmidgpmaa
/- The next permutation, and the comparison of renumbered tables: of the program. -/
namespace Go.Proofs.Ytpfodikmidgpmaa
open Go.RowKit
set_option linter.unusedSimpArgs false
/-- a list read as numbers -/
def lF (l : List Nat) (j : Nat) : Int := (l.getD j 0 : Nat)
theorem RowI.cellv {w : World} {t : TypeId} {b n i : Nat} {f : Nat → Int} {x : Int} (h : RowI w t b n f) (hi : i < n) (e : f i = x) : w.cell? ⟨b, i, none⟩ = some (.int .i64 x) := by
  rw [← e]; exact RowB.cell h hi
/-- the places s .. s + r - 1 the other way round -/
def revF (F : Nat → Int) (s r : Nat) (j : Nat) : Int := if s ≤ j ∧ j < s + r then F (s + (r - 1 - (j - s))) else F j
theorem at1 (l : List Nat) (i j x : Nat) (hi : i + 1 < l.length) (hx : x < l.length) :
  ((((l.set i (l.getD j 0)).set j (l.getD i 0)).take (i + 1)) ++ (((l.set i (l.getD j 0)).set j (l.getD i 0)).drop (i + 1)).reverse).getD x 0 = (let y := if x ≤ i then x else l.length + i - x; if y = j then l.getD i 0 else if y = i then l.getD j 0 else l.getD y 0) := by
  have key : ∀ y, y < l.length → ((l.set i (l.getD j 0)).set j (l.getD i 0)).getD y 0 = (if y = j then l.getD i 0 else if y = i then l.getD j 0 else l.getD y 0) := by
    intro y hy
    rw [List.getD_eq_getElem?_getD, List.getElem?_set, List.getElem?_set]
    by_cases e : j = y
    · subst e; simp [hy]
    · rw [if_neg e, if_neg (fun h : y = j => e h.symm)]
      by_cases e2 : i = y
      · subst e2; simp [hy]
      · rw [if_neg e2, if_neg (fun h : y = i => e2 h.symm), List.getD_eq_getElem?_getD]
  have hm : ((l.set i (l.getD j 0)).set j (l.getD i 0)).length = l.length := by simp
  generalize (l.set i (l.getD j 0)).set j (l.getD i 0) = m at *
  simp only
  rw [← key _ (by split <;> omega)]
  rw [List.getD_eq_getElem?_getD, List.getD_eq_getElem?_getD]
  by_cases e : x ≤ i
  · rw [if_pos e, List.getElem?_append_left (by simp; omega), List.getElem?_take, if_pos (by omega)]
  · rw [if_neg e, List.getElem?_append_right (by simp; omega), List.getElem?_reverse (by simp; omega), List.getElem?_drop]
    congr 2; simp; omega
def swpF (F : Nat → Int) (a b : Nat) (y : Nat) : Int := if y = b then F a else if y = a then F b else F y
theorem nextP_at {l l' : List Nat} (h : nextP l = some l') : upI l (l.length - 1) ≠ 0 ∧ l'.length = l.length ∧
    ∀ x, x < l.length → lF l' x = swpF (lF l) (upI l (l.length - 1) - 1) (dnJ l (l.getD (upI l (l.length - 1) - 1) 0) (l.length - 1)) (if x ≤ upI l (l.length - 1) - 1 then x else l.length + (upI l (l.length - 1) - 1) - x) := by
  unfold nextP at h
  by_cases h0 : upI l (l.length - 1) = 0
  · rw [if_pos h0] at h; cases h
  · rw [if_neg h0] at h
    simp only [Option.some.injEq] at h
    have hk : ∀ k, upI l k ≤ k := by
      intro k
      induction k with
      | zero => exact Nat.le_refl _
      | succ k ih => simp only [upI]; split <;> omega
    have hk1 := hk (l.length - 1)
    generalize hi : upI l (l.length - 1) - 1 = i at *
    generalize dnJ l (l.getD i 0) (l.length - 1) = j at *
    subst h
    refine ⟨h0, by simp; omega, fun x hx => ?_⟩
    unfold lF
    rw [at1 l i j x (by omega) hx]
    unfold swpF
    simp only
    split <;> (split <;> first | rfl | (split <;> rfl))
end Go.Proofs.Ytpfodikmidgpmaa
/- The comparison of renumbered tables: of the program. -/
namespace Go.Proofs.Ytpfodikmidgpmaa
open Go.RowKit
set_option linter.unusedSimpArgs false
end Go.Proofs.Ytpfodikmidgpmaa
