/- Merged: Prm, Adv, Cmp. -/
import Derived.Test.YtmdmojklagmmiaaOpp
/- Permutations of labels; least tables. -/
namespace Go.Proofs.Ytmdmojklagmmiaa
open Go.RowKit
/-- how far a list descends at its end -/
def upI (l : List Nat) : Nat → Nat
  | 0 => 0
  | k + 1 => if l.getD (k + 1) 0 < l.getD k 0 then upI l k else k + 1
/-- the last place at which a list has at least a -/
def dnJ (l : List Nat) (a : Nat) : Nat → Nat
  | 0 => 0
  | k + 1 => if l.getD (k + 1) 0 < a then dnJ l a k else k + 1
/-- the next list with the same numbers -/
def nextP (l : List Nat) : Option (List Nat) :=
  if upI l (l.length - 1) = 0 then none else
    let i := upI l (l.length - 1) - 1
    let j := dnJ l (l.getD i 0) (l.length - 1)
    let m := (l.set i (l.getD j 0)).set j (l.getD i 0)
    some (m.take (i + 1) ++ (m.drop (i + 1)).reverse)
def orbit : Nat → List Nat → List (List Nat)
  | 0, l => [l]
  | f + 1, l => l :: match nextP l with
    | none => []
    | some m => orbit f m
/-- all lists that go on with s by f more numbers of 1..n-1 -/
def perF (n : Nat) : Nat → List Nat → List (List Nat)
  | 0, s => [s]
  | f + 1, s => ((List.range' 1 (n - 1)).filter fun i => !s.contains i).flatMap fun i => perF n f (s ++ [i])
def per (n : Nat) : List (List Nat) := perF n (n - 1) [0]
theorem orbit_per : ∀ n, 1 ≤ n → n ≤ 7 → (orbit 720 (List.range' 1 (n - 1))).map (0 :: ·) = per n := by
  intro n h1 h2
  obtain rfl | rfl | rfl | rfl | rfl | rfl | rfl : n = 1 ∨ n = 2 ∨ n = 3 ∨ n = 4 ∨ n = 5 ∨ n = 6 ∨ n = 7 := by omega
  all_goals decide +kernel
def invL (n : Nat) (l : List Nat) : List Nat := (List.range n).map fun x => l.idxOf x
def goodL (n : Nat) (l : List Nat) : Bool := l.length == n && l.getD 0 1 == 0 && (List.range n).all fun i => decide (l.getD i 0 < n) && l.getD ((invL n l).getD i 0) 0 == i && (invL n l).getD (l.getD i 0) 0 == i && decide ((invL n l).getD i 0 < n)
theorem per_good : ∀ n, 1 ≤ n → n ≤ 7 → (per n).all (goodL n) = true := by
  intro n h1 h2
  obtain rfl | rfl | rfl | rfl | rfl | rfl | rfl : n = 1 ∨ n = 2 ∨ n = 3 ∨ n = 4 ∨ n = 5 ∨ n = 6 ∨ n = 7 := by omega
  all_goals decide +kernel
theorem mem_perF {n : Nat} : ∀ (f : Nat) (s l : List Nat), (∃ t, l = s ++ t ∧ t.length = f ∧ (∀ x ∈ t, 1 ≤ x ∧ x < n ∧ x ∉ s) ∧ t.Nodup) → l ∈ perF n f s
  | 0, s, l, ⟨t, h1, h2, _, _⟩ => by
    obtain rfl := List.eq_nil_of_length_eq_zero h2
    rw [h1]; simp [perF]
  | f + 1, s, l, ⟨t, h1, h2, h3, h4⟩ => by
    match t, h2 with
    | x :: r, h2 =>
      have hx := h3 x (by simp)
      rw [List.nodup_cons] at h4
      simp only [perF, List.mem_flatMap, List.mem_filter, List.mem_range'_1]
      refine ⟨x, ⟨⟨hx.1, by omega⟩, by simpa using hx.2.2⟩, mem_perF f _ l ⟨r, by rw [h1]; simp, by simpa using h2, fun y hy => ?_, h4.2⟩⟩
      obtain ⟨a, b, c⟩ := h3 y (by simp [hy])
      refine ⟨a, b, fun h => ?_⟩
      rw [List.mem_append] at h
      rcases h with h | h
      · exact c h
      · rw [List.mem_singleton] at h; exact h4.1 (h ▸ hy)
theorem per_mem {n : Nat} (h1 : 1 ≤ n) {l : List Nat} (hl : l.length = n) (h0 : l.getD 0 1 = 0) (hb : ∀ i, i < n → l.getD i 0 < n) (hi : ∀ i j, i < n → j < n → l.getD i 0 = l.getD j 0 → i = j) : l ∈ per n := by
  match l, hl with
  | x :: r, hl =>
    have hx : x = 0 := by simpa using h0
    subst hx
    have at_ : ∀ (y : Nat), y ∈ r → ∃ i, i < r.length ∧ (0 :: r).getD (i + 1) 0 = y := by
      intro y hy
      obtain ⟨i, hi', e⟩ := List.getElem_of_mem hy
      exact ⟨i, hi', by simp [List.getD, hi', e]⟩
    have hl' : r.length + 1 = n := by simpa using hl
    refine mem_perF (n - 1) [0] _ ⟨r, rfl, by omega, fun y hy => ?_, ?_⟩
    · obtain ⟨i, hi', e⟩ := at_ y hy
      have := hb (i + 1) (by omega)
      have h2 : y ≠ 0 := fun h => by
        have := hi (i + 1) 0 (by omega) (by omega) (by rw [e, h]; rfl)
        omega
      exact ⟨by omega, by omega, by simpa using h2⟩
    · rw [List.nodup_iff_pairwise_ne, List.pairwise_iff_getElem]
      intro i j hi' hj' hij e
      have := hi (i + 1) (j + 1) (by omega) (by omega) (by simp [List.getD, hi', hj', e])
      omega
theorem goodL_t {n : Nat} {l : List Nat} (h : goodL n l = true) : l.length = n ∧ l.getD 0 1 = 0 ∧ ∀ i, i < n → l.getD i 0 < n ∧ l.getD ((invL n l).getD i 0) 0 = i ∧ (invL n l).getD (l.getD i 0) 0 = i ∧ (invL n l).getD i 0 < n := by
  simp only [goodL, Bool.and_eq_true, beq_iff_eq, List.all_eq_true, List.mem_range, decide_eq_true_eq] at h
  exact ⟨h.1.1, h.1.2, fun i hi => by have := h.2 i hi; exact ⟨this.1.1.1, this.1.1.2, this.1.2, this.2⟩⟩
/-- the inverse of a permutation is one, too -/
theorem per_inv {n : Nat} (h1 : 1 ≤ n) (h2 : n ≤ 7) {l : List Nat} (h : l ∈ per n) : invL n l ∈ per n := by
  obtain ⟨a, b, c⟩ := goodL_t (List.all_eq_true.1 (per_good n h1 h2) l h)
  have h0 : l.getD 0 0 = 0 := by
    match l, a with
    | [], a => simp at a; omega
    | x :: r, _ => simpa using b
  have z := (c 0 (by omega)).2.2.1
  rw [h0] at z
  refine per_mem h1 (by simp [invL]) ?_ (fun i hi => (c i hi).2.2.2) fun i j hi hj e => ?_
  · have : (invL n l).length = n := by simp [invL]
    match hm : invL n l, this with
    | [], this => simp at this; omega
    | x :: r, _ => rw [hm] at z; simpa using z
  · have x := (c i hi).2.1
    have y := (c j hj).2.1
    rw [e, y] at x; exact x.symm
/-- a place of a table of tables that comes before another one -/
def bef (a b c i j k : Nat) : Prop := a < i ∨ (a = i ∧ (b < j ∨ (b = j ∧ c < k)))
/-- lexicographically less -/
def ltT (n : Nat) (F G : Nat → Nat → Nat → Int) : Prop := ∃ i j k, i < n ∧ j < n ∧ k < n ∧ (∀ a b c, a < n → b < n → c < n → bef a b c i j k → F a b c = G a b c) ∧ F i j k < G i j k
def eqT (n : Nat) (F G : Nat → Nat → Nat → Int) : Prop := ∀ i j k, i < n → j < n → k < n → F i j k = G i j k
theorem ltT_trans {n : Nat} {F G H : Nat → Nat → Nat → Int} (h : ltT n F G) (h' : ltT n G H) : ltT n F H := by
  obtain ⟨i, j, k, hi, hj, hk, he, hl⟩ := h
  obtain ⟨i', j', k', hi', hj', hk', he', hl'⟩ := h'
  have tri : bef i j k i' j' k' ∨ bef i' j' k' i j k ∨ (i = i' ∧ j = j' ∧ k = k') := by unfold bef; omega
  rcases tri with h | h | ⟨rfl, rfl, rfl⟩
  · refine ⟨i, j, k, hi, hj, hk, fun a b c ha hb hc hab => ?_, ?_⟩
    · rw [he a b c ha hb hc hab]; exact he' a b c ha hb hc (by unfold bef at *; omega)
    · rw [← he' i j k hi hj hk h]; exact hl
  · refine ⟨i', j', k', hi', hj', hk', fun a b c ha hb hc hab => ?_, ?_⟩
    · rw [he a b c ha hb hc (by unfold bef at *; omega)]; exact he' a b c ha hb hc hab
    · rw [he i' j' k' hi' hj' hk' h]; exact hl'
  · refine ⟨i, j, k, hi, hj, hk, fun a b c ha hb hc hab => ?_, by omega⟩
    rw [he a b c ha hb hc hab]; exact he' a b c ha hb hc hab
theorem eqT_not {n : Nat} {F G : Nat → Nat → Nat → Int} (h : eqT n F G) : ¬ ltT n F G := by
  rintro ⟨i, j, k, hi, hj, hk, _, hl⟩
  have := h i j k hi hj hk; omega
theorem ltT_asym {n : Nat} {F G : Nat → Nat → Nat → Int} (h : ltT n F G) : ¬ ltT n G F := fun h' => eqT_not (fun _ _ _ _ _ _ => rfl) (ltT_trans h h')
theorem ltT_cong {n : Nat} {F F' G G' : Nat → Nat → Nat → Int} (h : ltT n F G) (h1 : eqT n F F') (h2 : eqT n G G') : ltT n F' G' := by
  obtain ⟨i, j, k, hi, hj, hk, he, hl⟩ := h
  exact ⟨i, j, k, hi, hj, hk, fun a b c ha hb hc hab => by rw [← h1 a b c ha hb hc, ← h2 a b c ha hb hc]; exact he a b c ha hb hc hab, by rw [← h1 i j k hi hj hk, ← h2 i j k hi hj hk]; exact hl⟩
theorem eqT.symm {n : Nat} {F G : Nat → Nat → Nat → Int} (h : eqT n F G) : eqT n G F := fun i j k hi hj hk => (h i j k hi hj hk).symm
theorem ltT_tri {n : Nat} {F G : Nat → Nat → Nat → Int} (h1 : ¬ ltT n F G) (h2 : ¬ ltT n G F) : eqT n F G := by
  have row : ∀ i, i ≤ n → ∀ a b c, a < i → b < n → c < n → F a b c = G a b c := by
    intro i
    induction i with
    | zero => intro _ a b c ha; omega
    | succ i ih =>
      intro hi a b c ha hb hc
      by_cases e : a < i
      · exact ih (by omega) a b c e hb hc
      obtain rfl : a = i := by omega
      have col : ∀ j, j ≤ n → ∀ b c, b < j → c < n → F a b c = G a b c := by
        intro j
        induction j with
        | zero => intro _ b c hb; omega
        | succ j ihj =>
          intro hj b c hb hc
          by_cases e : b < j
          · exact ihj (by omega) b c e hc
          obtain rfl : b = j := by omega
          have num : ∀ k, k ≤ n → ∀ c, c < k → F a b c = G a b c := by
            intro k
            induction k with
            | zero => intro _ c hc; omega
            | succ k ihk =>
              intro hk c hc
              by_cases e : c < k
              · exact ihk (by omega) c e
              obtain rfl : c = k := by omega
              have hbf : ∀ a' b' c', a' < n → b' < n → c' < n → bef a' b' c' a b c → F a' b' c' = G a' b' c' := by
                intro a' b' c' _ hb' hc' hbe
                rcases hbe with h | ⟨rfl, h | ⟨rfl, h⟩⟩
                · exact ih (by omega) a' b' c' h hb' hc'
                · exact ihj (by omega) b' c' h hc'
                · exact ihk (by omega) c' h
              by_cases e1 : F a b c < G a b c
              · exact absurd ⟨a, b, c, by omega, by omega, by omega, hbf, e1⟩ h1
              · by_cases e2 : G a b c < F a b c
                · exact absurd ⟨a, b, c, by omega, by omega, by omega, fun a' b' c' p q r s => (hbf a' b' c' p q r s).symm, e2⟩ h2
                · omega
          exact num n (Nat.le_refl _) c hc
      exact col n (Nat.le_refl _) b c hb hc
  exact fun i j k hi hj hk => row n (Nat.le_refl _) i j k hi hj hk
/-- the table whose label i is the label p i -/
def ren (f : Nat → Nat → Nat → Int) (p : List Nat) (i j k : Nat) : Int := f (p.getD i 0) (p.getD j 0) (p.getD k 0)
def isLeast (n : Nat) (f : Nat → Nat → Nat → Int) (p : List Nat) : Prop := p ∈ per n ∧ ∀ q, q ∈ per n → ¬ ltT n (ren f q) (ren f p)
theorem isLeast_eq {n : Nat} {f : Nat → Nat → Nat → Int} {p q : List Nat} (h : isLeast n f p) (h' : isLeast n f q) : eqT n (ren f p) (ren f q) := ltT_tri (h'.2 p h.1) (h.2 q h'.1)
open Classical in
noncomputable def leastP (n : Nat) (f : Nat → Nat → Nat → Int) : List Nat := if h : ∃ p, isLeast n f p then Classical.choose h else []
theorem leastP_eq {n : Nat} {f : Nat → Nat → Nat → Int} {p : List Nat} (h : isLeast n f p) : eqT n (ren f p) (ren f (leastP n f)) := by
  have h1 : ∃ p, isLeast n f p := ⟨p, h⟩
  unfold leastP
  rw [dif_pos h1]
  exact isLeast_eq h (Classical.choose_spec h1)
theorem per_len : ∀ n, 1 ≤ n → n ≤ 7 → (per n).length ≤ 720 := by
  intro n h1 h2
  obtain rfl | rfl | rfl | rfl | rfl | rfl | rfl : n = 1 ∨ n = 2 ∨ n = 3 ∨ n = 4 ∨ n = 5 ∨ n = 6 ∨ n = 7 := by omega
  all_goals decide +kernel
theorem per_t {n : Nat} (h1 : 1 ≤ n) (h2 : n ≤ 7) {l : List Nat} (h : l ∈ per n) : l.length = n ∧ l.getD 0 1 = 0 ∧ ∀ i, i < n → l.getD i 0 < n ∧ l.getD ((invL n l).getD i 0) 0 = i ∧ (invL n l).getD (l.getD i 0) 0 = i ∧ (invL n l).getD i 0 < n := goodL_t (List.all_eq_true.1 (per_good n h1 h2) l h)
theorem per_inv2 {n : Nat} (h1 : 1 ≤ n) (h2 : n ≤ 7) {l : List Nat} (h : l ∈ per n) : ∀ x, x < n → (invL n (invL n l)).getD x 0 = l.getD x 0 := by
  intro x hx
  obtain ⟨_, _, c⟩ := per_t h1 h2 h
  obtain ⟨_, _, c'⟩ := per_t h1 h2 (per_inv h1 h2 h)
  have := (c' (l.getD x 0) (c x hx).1).2.2.1
  rw [(c x hx).2.2.1] at this
  exact this
theorem per_inj {n : Nat} (h1 : 1 ≤ n) (h2 : n ≤ 7) {l : List Nat} (h : l ∈ per n) {i j : Nat} (hi : i < n) (hj : j < n) (e : l.getD i 0 = l.getD j 0) : i = j := by
  obtain ⟨_, _, c⟩ := per_t h1 h2 h
  have x := (c i hi).2.2.1
  have y := (c j hj).2.2.1
  rw [e, y] at x; exact x.symm
theorem orbit_none {f : Nat} {l : List Nat} (h : nextP l = none) : orbit f l = [l] := by
  cases f with
  | zero => rfl
  | succ f => simp [orbit, h]
theorem orbit_some {f : Nat} {l m : List Nat} (h : nextP l = some m) : orbit (f + 1) l = l :: orbit f m := by simp [orbit, h]
end Go.Proofs.Ytmdmojklagmmiaa
/- The next permutation, and the comparison of renumbered tables: of the program. -/
namespace Go.Proofs.Ytmdmojklagmmiaa
open Go.RowKit
set_option linter.unusedSimpArgs false
/-- a list read as numbers -/
def lF (l : List Nat) (j : Nat) : Int := (l.getD j 0 : Nat)
theorem RowI.cellv {w : World} {t : TypeId} {b n i : Nat} {f : Nat → Int} {x : Int} (h : RowI w t b n f) (hi : i < n) (e : f i = x) : w.cell? ⟨b, i, none⟩ = some (.int .i64 x) := by
  rw [← e]; exact RowB.cell h hi
/-- the places s .. s + r - 1 the other way round -/
def revF (F : Nat → Int) (s r : Nat) (j : Nat) : Int := if s ≤ j ∧ j < s + r then F (s + (r - 1 - (j - s))) else F j
set_option maxRecDepth 100000 in
theorem reverse_f (g s r c N : Nat) (F : Nat → Int) (w : World) (h : RowI w 2 g N F) (hs : s + r ≤ N) (hr : r ≤ 1000) :
    Calls Try.prog 113 #[.slice (some ⟨g, s, none⟩) r c] w fun e w' => e = .returned (.tuple #[]) ∧ RowI w' 2 g N (revF F s r) ∧ Only (fun k => k = g) w w' := by
  have H := Lib.hid h
  clear h
  go_enter Try.func113, Try.ntmps113
  go_wp2_with fail
  go_loopw [2, 3] (fun x y wr => ∃ k : Nat, 2 * k ≤ r + 1 ∧ x = .int .i64 k ∧ y = .int .i64 ((r : Int) - 1 - k) ∧ RowI wr 2 g N (fun j => if s ≤ j ∧ j < s + r ∧ (j - s < k ∨ r ≤ j - s + k) then F (s + (r - 1 - (j - s))) else F j) ∧ Only (fun k => k = g) w wr) (fun x y _ => ((intOf y) - (intOf x) + 1).toNat)
  case atStart => exact ⟨0, by omega, rfl, by simp, H.out.congr (fun j _ => by rw [if_neg (by omega)]), Only.refl _ _⟩
  case round =>
    obtain ⟨k, hk, rfl, rfl, hrow, hon⟩ := hrel
    have HR := Lib.hid hrow
    have HO := Lib.hid hon
    clear hrow hon
    by_cases hlt : (k : Int) < (r : Int) - 1 - k
    · obtain ⟨q, hq⟩ : ∃ q : Nat, (q : Int) = (r : Int) - 1 - k := ⟨r - 1 - k, by omega⟩
      rw [← hq] at hlt ⊢
      have hqk : r - 1 - k = q := by omega
      obtain ⟨X, hX⟩ : ∃ X : Nat → Int, X = (fun j => if s ≤ j ∧ j < s + r ∧ (j - s < k ∨ r ≤ j - s + k) then F (s + (r - 1 - (j - s))) else F j) := ⟨_, rfl⟩
      rw [← hX] at HR
      have x1 : X (s + k) = F (s + k) := by rw [hX]; simp only; rw [if_neg (by omega)]
      have x2 : X (s + q) = F (s + q) := by rw [hX]; simp only; rw [if_neg (by omega)]
      have e1 : wr.cell? ⟨g, s + k, none⟩ = some (.int .i64 (F (s + k))) := by rw [← x1]; exact RowB.cell HR.out (show s + k < N by omega)
      have e2 : wr.cell? ⟨g, s + q, none⟩ = some (.int .i64 (F (s + q))) := by rw [← x2]; exact RowB.cell HR.out (show s + q < N by omega)
      have f1 := RowB.frozen HR.out (s + k)
      have hset := RowI.set HR.out (s + k) (F (s + q))
      have e3 : (wr.setCell ⟨g, s + k, none⟩ (.int .i64 (F (s + q)))).cell? ⟨g, s + q, none⟩ = some (.int .i64 (F (s + q))) := by
        exact RowI.cellv hset (show s + q < N by omega) (by show (if _ then _ else _) = _; rw [if_neg (by omega), x2])
      have f2 := RowB.frozen hset (s + q)
      have HS := Lib.hid (RowI.set hset (s + q) (F (s + k)))
      have HO2 := Lib.hid (show Only (fun k => k = g) w ((wr.setCell ⟨g, s + k, none⟩ (.int .i64 (F (s + q)))).setCell ⟨g, s + q, none⟩ (.int .i64 (F (s + k)))) from Only.setCell (p := ⟨g, s + q, none⟩) (Only.setCell (p := ⟨g, s + k, none⟩) HO.out rfl _) rfl _)
      have HX := Lib.hid hX
      clear hset hX x1 x2 HR HO
      have hlt2 : decide ((k : Int) < (q : Int)) = true := by simp; omega
      generalize hy1 : F (s + k) = y1 at *
      generalize hy2 : F (s + q) = y2 at *
      have HY1 := Lib.hid hy1
      have HY2 := Lib.hid hy2
      clear hy1 hy2
      go_wp2_with fail
      go_region
      have HS2 := Lib.hid (show RowI ((wr.setCell ⟨g, s + k, none⟩ (.int .i64 y2)).setCell ⟨g, s + q, none⟩ (.int .i64 y1)).drew 2 g N _ from HS.out)
      have HO3 := Lib.hid (show Only (fun k => k = g) w ((wr.setCell ⟨g, s + k, none⟩ (.int .i64 y2)).setCell ⟨g, s + q, none⟩ (.int .i64 y1)).drew from HO2.out.drewN 1)
      clear HS HO2 e1 e2 e3 f1 f2
      obtain ⟨w2, hw2⟩ : ∃ x, x = ((wr.setCell ⟨g, s + k, none⟩ (.int .i64 y2)).setCell ⟨g, s + q, none⟩ (.int .i64 y1)).drew := ⟨_, rfl⟩
      rw [← hw2] at HS2 HO3 ⊢
      clear hw2
      go_wp2_with fail
      exact ⟨⟨k + 1, by omega, by go_num, by go_num, HS2.out.congr (fun j _ => by
        have hxx := HX.out; have a1 := HY1.out; have a2 := HY2.out
        by_cases e : j = s + q
        · rw [if_pos e, if_pos (by omega), ← a1, e]; congr 1; omega
        · rw [if_neg e]
          by_cases e' : j = s + k
          · rw [if_pos e', if_pos (by omega), ← a2, e']; congr 1; omega
          · rw [if_neg e', hxx]
            show (if _ then _ else _) = _
            by_cases e3 : s ≤ j ∧ j < s + r ∧ (j - s < k ∨ r ≤ j - s + k)
            · rw [if_pos e3, if_pos (by omega)]
            · rw [if_neg e3, if_neg (by omega)]), HO3.out⟩, by simp [intOf]; omega⟩
    · have hlt2 : decide ((k : Int) < (r : Int) - 1 - k) = false := by simp; omega
      go_wp2_with fail
      go_end0
      refine ⟨rfl, HR.out.congr (fun j _ => ?_), HO.out⟩
      unfold revF
      by_cases e : s ≤ j ∧ j < s + r
      · rw [if_pos e]
        by_cases e2 : j - s < k ∨ r ≤ j - s + k
        · rw [if_pos ⟨e.1, e.2, e2⟩]
        · rw [if_neg (fun h => e2 h.2.2)]
          congr 1; omega
      · rw [if_neg e, if_neg (fun h => e ⟨h.1, h.2.1⟩)]
theorem at1 (l : List Nat) (i j x : Nat) (hi : i + 1 < l.length) (hx : x < l.length) :
  ((((l.set i (l.getD j 0)).set j (l.getD i 0)).take (i + 1)) ++ (((l.set i (l.getD j 0)).set j (l.getD i 0)).drop (i + 1)).reverse).getD x 0 = (let y := if x ≤ i then x else l.length + i - x; if y = j then l.getD i 0 else if y = i then l.getD j 0 else l.getD y 0) := by
  have key : ∀ y, y < l.length → ((l.set i (l.getD j 0)).set j (l.getD i 0)).getD y 0 = (if y = j then l.getD i 0 else if y = i then l.getD j 0 else l.getD y 0) := by
    intro y hy
    rw [List.getD_eq_getElem?_getD, List.getElem?_set, List.getElem?_set]
    by_cases e : j = y
    · subst e; simp [hy]
    · rw [if_neg e, if_neg (fun h : y = j => e h.symm)]
      by_cases e2 : i = y
      · subst e2; simp [hy]
      · rw [if_neg e2, if_neg (fun h : y = i => e2 h.symm), List.getD_eq_getElem?_getD]
  have hm : ((l.set i (l.getD j 0)).set j (l.getD i 0)).length = l.length := by simp
  generalize (l.set i (l.getD j 0)).set j (l.getD i 0) = m at *
  simp only
  rw [← key _ (by split <;> omega)]
  rw [List.getD_eq_getElem?_getD, List.getD_eq_getElem?_getD]
  by_cases e : x ≤ i
  · rw [if_pos e, List.getElem?_append_left (by simp; omega), List.getElem?_take, if_pos (by omega)]
  · rw [if_neg e, List.getElem?_append_right (by simp; omega), List.getElem?_reverse (by simp; omega), List.getElem?_drop]
    congr 2; simp; omega
def swpF (F : Nat → Int) (a b : Nat) (y : Nat) : Int := if y = b then F a else if y = a then F b else F y
theorem nextP_at {l l' : List Nat} (h : nextP l = some l') : upI l (l.length - 1) ≠ 0 ∧ l'.length = l.length ∧
    ∀ x, x < l.length → lF l' x = swpF (lF l) (upI l (l.length - 1) - 1) (dnJ l (l.getD (upI l (l.length - 1) - 1) 0) (l.length - 1)) (if x ≤ upI l (l.length - 1) - 1 then x else l.length + (upI l (l.length - 1) - 1) - x) := by
  unfold nextP at h
  by_cases h0 : upI l (l.length - 1) = 0
  · rw [if_pos h0] at h; cases h
  · rw [if_neg h0] at h
    simp only [Option.some.injEq] at h
    have hk : ∀ k, upI l k ≤ k := by
      intro k
      induction k with
      | zero => exact Nat.le_refl _
      | succ k ih => simp only [upI]; split <;> omega
    have hk1 := hk (l.length - 1)
    generalize hi : upI l (l.length - 1) - 1 = i at *
    generalize dnJ l (l.getD i 0) (l.length - 1) = j at *
    subst h
    refine ⟨h0, by simp; omega, fun x hx => ?_⟩
    unfold lF
    rw [at1 l i j x (by omega) hx]
    unfold swpF
    simp only
    split <;> (split <;> first | rfl | (split <;> rfl))
theorem advance0_f (a : Option Addr) (c : Nat) (w : World) : Calls Try.prog 73 #[.slice a 0 c] w fun e w' => e = .returned (.bool false) ∧ Only (fun _ => False) w w' := by
  go_enter Try.func73, Try.ntmps73
  go_wp2_with fail
  go_loopw [3] (fun x wr => x = .int .i64 (-2) ∧ Only (fun _ => False) w wr) (fun _ _ => 0)
  case atStart => exact ⟨rfl, Only.refl _ _⟩
  case round =>
    obtain ⟨rfl, hb⟩ := hrel
    have HB := Lib.hid hb
    clear hb
    go_wp2_with fail
    go_region
    have HB := Lib.hid (HB.out.drewN 1)
    go_wp2_with fail
    go_ret
    exact ⟨rfl, HB.out⟩
set_option maxHeartbeats 4000000 in
set_option maxRecDepth 100000 in
theorem advance_f (g o m c N : Nat) (l : List Nat) (F : Nat → Int) (w : World) (h : RowI w 2 g N F) (hN : o + m ≤ N) (hl : l.length = m) (hF : ∀ x, x < m → F (o + x) = lF l x) (hm0 : 0 < m) (hm : m ≤ 1000) (hc : m ≤ c) :
    Calls Try.prog 73 #[.slice (some ⟨g, o, none⟩) m c] w fun e w' => e = .returned (.bool (nextP l).isSome) ∧ Only (fun k => k = g) w w' ∧ RowI w' 2 g N (fun j => if o ≤ j ∧ j < o + m then lF ((nextP l).getD l) (j - o) else F j) := by
  have H := Lib.hid h
  have HF := Lib.hid hF
  have rd : ∀ (u : World) (x : Nat), RowI u 2 g N F → x < m → u.cell? ⟨g, o + x, none⟩ = some (.int .i64 (l.getD x 0 : Nat)) := fun u x hu hx => RowI.cellv hu (by omega) (hF x hx)
  have RD := Lib.hid rd
  clear h hF rd
  obtain ⟨K, hK⟩ : ∃ K, K = upI l (l.length - 1) := ⟨_, rfl⟩
  go_enter Try.func73, Try.ntmps73
  go_wp2_with fail
  go_loopw [3] (fun x wr => ∃ k : Nat, k + 1 ≤ m ∧ x = .int .i64 ((k : Int) - 1) ∧ upI l k = K ∧ RowI wr 2 g N F ∧ Only (fun k => k = g) w wr) (fun x _ => ((intOf x) + 1).toNat)
  case atStart => exact ⟨m - 1, by omega, by go_num, by rw [hK, hl], H.out, Only.refl _ _⟩
  case round =>
    obtain ⟨k, hk, rfl, hup, hrow, hon⟩ := hrel
    have HR := Lib.hid hrow
    have HO := Lib.hid hon
    clear hrow hon
    by_cases h0 : k = 0
    · subst h0
      have HN := Lib.hid (show nextP l = none by unfold nextP; rw [if_pos (by rw [← hK, ← hup]; rfl)])
      go_wp2_with fail
      go_region
      have HR2 := Lib.hid (show RowI wr.drew 2 g N F from HR.out)
      have HO2 := Lib.hid (HO.out.drewN 1)
      go_wp2_with fail
      go_ret
      refine ⟨by rw [HN.out]; rfl, HO2.out, HR2.out.congr fun j _ => ?_⟩
      rw [HN.out]
      by_cases e : o ≤ j ∧ j < o + m
      · rw [if_pos e]
        have := HF.out (j - o) (by omega)
        rw [show o + (j - o) = j by omega] at this
        exact this
      · rw [if_neg e]
    · obtain ⟨k, rfl⟩ : ∃ k', k = k' + 1 := ⟨k - 1, by omega⟩
      have e1 := RD.out wr k HR.out (by omega)
      have e2 := RD.out wr (k + 1) HR.out (by omega)
      have hs : ((k + 1 : Nat) : Int) - 1 = k := by omega
      rw [hs]
      by_cases hgt : l.getD (k + 1) 0 < l.getD k 0
      · have hup2 : upI l k = K := by rw [← hup]; simp only [upI, if_pos hgt]
        obtain ⟨x1, hx1⟩ : ∃ x, x = l.getD k 0 := ⟨_, rfl⟩
        obtain ⟨x2, hx2⟩ : ∃ x, x = l.getD (k + 1) 0 := ⟨_, rfl⟩
        rw [← hx1] at e1 hgt
        rw [← hx2] at e2 hgt
        have hd : decide ((x2 : Int) < (x1 : Int)) = true := by simp; omega
        clear hup hx1 hx2
        go_wp2_with fail
        go_region
        have HR2 := Lib.hid (show RowI wr.drew 2 g N F from HR.out)
        have HO2 := Lib.hid (HO.out.drewN 1)
        go_wp2_with fail
        exact ⟨⟨k, by omega, by go_num, hup2, HR2.out, HO2.out⟩, by simp [intOf]⟩
      · obtain rfl : k + 1 = K := by rw [← hup]; simp only [upI, if_neg hgt]
        have HK := Lib.hid hK
        obtain ⟨x1, hx1⟩ : ∃ x, x = l.getD k 0 := ⟨_, rfl⟩
        obtain ⟨x2, hx2⟩ : ∃ x, x = l.getD (k + 1) 0 := ⟨_, rfl⟩
        have HX1 := Lib.hid hx1
        rw [← hx1] at e1 hgt
        rw [← hx2] at e2 hgt
        have HGT := Lib.hid (show ¬ l.getD (k + 1) 0 < x1 by rw [← hx2]; exact hgt)
        have hd : decide ((x2 : Int) < (x1 : Int)) = false := by simp; omega
        have hd0 : decide ((k : Int) < 0) = false := by simp
        clear hup hK hx1 hx2
        go_wp2_with fail
        go_region
        have HR2 := Lib.hid (show RowI wr.drew 2 g N F from HR.out)
        have HO2 := Lib.hid (HO.out.drewN 1)
        clear e1 e2 HR HO
        obtain ⟨wv, hwv⟩ : ∃ x, x = wr.drew := ⟨_, rfl⟩
        have HR2 := Lib.hid (show RowI wv 2 g N F by rw [hwv]; exact HR2.out)
        have HO2 := Lib.hid (show Only (fun k => k = g) w wv by rw [hwv]; exact HO2.out)
        rw [← hwv]
        clear hwv
        go_wp2_with fail
        go_loopw [4] (fun x wr => ∃ j : Nat, k + 1 ≤ j ∧ j + 1 ≤ m ∧ x = .int .i64 j ∧ dnJ l x1 j = dnJ l x1 (m - 1) ∧ RowI wr 2 g N F ∧ Only (fun k => k = g) w wr) (fun x _ => (intOf x).toNat)
        case atStart => exact ⟨m - 1, by omega, by omega, by go_num, rfl, HR2.out, HO2.out⟩
        case round =>
          obtain ⟨j, hj1, hj2, rfl, hdn, hrow, hon⟩ := hrel
          have HR := Lib.hid hrow
          have HO := Lib.hid hon
          clear hrow hon
          have e1 : wr.cell? ⟨g, o + k, none⟩ = some (.int .i64 (x1 : Nat)) := by rw [HX1.out]; exact RD.out wr k HR.out (by omega)
          have e2 := RD.out wr j HR.out (by omega)
          obtain ⟨x3, hx3⟩ : ∃ x, x = l.getD j 0 := ⟨_, rfl⟩
          rw [← hx3] at e2
          by_cases hlt : x3 < x1
          · have hd : decide ((x3 : Int) < (x1 : Int)) = true := by simp; omega
            have hjk : j ≠ k + 1 := fun e => HGT.out (by rw [← e, ← hx3]; exact hlt)
            obtain ⟨j, rfl⟩ : ∃ j', j = j' + 1 := ⟨j - 1, by omega⟩
            have hdn2 : dnJ l x1 j = dnJ l x1 (m - 1) := by rw [← hdn]; simp only [dnJ]; rw [← hx3, if_pos hlt]
            clear hx3 hdn
            go_wp2_with fail
            go_region
            have HR2 := Lib.hid (show RowI wr.drew 2 g N F from HR.out)
            have HO2 := Lib.hid (HO.out.drewN 1)
            go_wp2_with fail
            exact ⟨⟨j, by omega, by omega, by go_num, hdn2, HR2.out, HO2.out⟩, by simp [intOf]⟩
          · have hd : decide ((x3 : Int) < (x1 : Int)) = false := by simp; omega
            have HJ := Lib.hid (show dnJ l x1 (m - 1) = j by
              rw [← hdn]
              obtain ⟨j, rfl⟩ : ∃ j', j = j' + 1 := ⟨j - 1, by omega⟩
              simp only [dnJ]; rw [← hx3, if_neg hlt])
            have HX3 := Lib.hid hx3
            clear hdn hx3
            go_wp2_with fail
            go_region
            obtain ⟨wq, hwq⟩ : ∃ x, x = wr.drew := ⟨_, rfl⟩
            have HR := Lib.hid (show RowI wq 2 g N F by rw [hwq]; exact HR.out)
            have HO := Lib.hid (show Only (fun k => k = g) w wq by rw [hwq]; exact HO.out.drewN 1)
            rw [← hwq]
            clear hwq e1 e2
            have e1 : wq.cell? ⟨g, o + k, none⟩ = some (.int .i64 (x1 : Nat)) := by rw [HX1.out]; exact RD.out wq k HR.out (by omega)
            have e2 : wq.cell? ⟨g, o + j, none⟩ = some (.int .i64 (x3 : Nat)) := by rw [HX3.out]; exact RD.out wq j HR.out (by omega)
            have f1 := RowB.frozen HR.out (o + k)
            have hset := RowI.set HR.out (o + k) (x3 : Nat)
            have e3 : (wq.setCell ⟨g, o + k, none⟩ (.int .i64 (x3 : Nat))).cell? ⟨g, o + j, none⟩ = some (.int .i64 (x3 : Nat)) :=
              RowI.cellv hset (show o + j < N by omega) (by show (if _ then _ else _) = _; rw [if_neg (by omega), HF.out j (by omega), HX3.out]; rfl)
            have f2 := RowB.frozen hset (o + j)
            have HS := Lib.hid (RowI.set hset (o + j) (x1 : Nat))
            have HO2 := Lib.hid (show Only (fun k => k = g) w ((wq.setCell ⟨g, o + k, none⟩ (.int .i64 (x3 : Nat))).setCell ⟨g, o + j, none⟩ (.int .i64 (x1 : Nat))) from Only.setCell (p := ⟨g, o + j, none⟩) (Only.setCell (p := ⟨g, o + k, none⟩) HO.out rfl _) rfl _)
            clear hset
            go_wp2_with fail
            go_region
            obtain ⟨w2, hw2⟩ : ∃ x, x = ((wq.setCell ⟨g, o + k, none⟩ (.int .i64 (x3 : Nat))).setCell ⟨g, o + j, none⟩ (.int .i64 (x1 : Nat))).drew := ⟨_, rfl⟩
            have HS2 := Lib.hid (show RowI w2 2 g N _ by rw [hw2]; exact HS.out)
            have HO3 := Lib.hid (show Only (fun k => k = g) w w2 by rw [hw2]; exact HO2.out.drewN 1)
            rw [← hw2]
            clear hw2 e1 e2 e3 f1 f2 HS HO2 HR HO
            go_wp2_with fail
            refine (reverse_f g (o + (k + 1)) (m - (k + 1)) (c - (k + 1)) N _ w2 HS2.out (by omega) (by omega)).mono ?_
            rintro e w3 ⟨rfl, hr3, ho3⟩
            have HR3 := Lib.hid hr3
            have HO4 := Lib.hid (HO3.out.trans ho3)
            clear hr3 ho3
            obtain ⟨l', hl'⟩ : ∃ l', nextP l = some l' := by
              unfold nextP; rw [if_neg (by rw [← HK.out]; omega)]; exact ⟨_, rfl⟩
            obtain ⟨n1, n2, n3⟩ := nextP_at hl'
            rw [← HK.out, show k + 1 - 1 = k by omega, hl, ← HX1.out, HJ.out] at n3
            have N3 := Lib.hid n3
            have HL := Lib.hid hl'
            clear n1 n2 n3 hl'
            go_wp2_with fail
            go_ret
            rw [HL.out]
            refine ⟨rfl, HO4.out, HR3.out.congr fun y _ => ?_⟩
            show revF _ _ _ y = if o ≤ y ∧ y < o + m then lF l' (y - o) else F y
            unfold revF
            by_cases h1 : o ≤ y ∧ y < o + m
            · have h2 := N3.out (y - o) (by omega)
              rw [if_pos h1, h2]
              have fk : lF l k = (x1 : Nat) := by rw [HX1.out]; rfl
              have fj : lF l j = (x3 : Nat) := by rw [HX3.out]; rfl
              have hf := HF.out
              unfold swpF
              rw [fk, fj]
              by_cases h3 : o + (k + 1) ≤ y ∧ y < o + (k + 1) + (m - (k + 1))
              · rw [if_pos h3, if_neg (show ¬ y - o ≤ k by omega)]
                have h4 := hf (m + k - (y - o)) (by omega)
                rw [show o + (k + 1) + (m - (k + 1) - 1 - (y - (o + (k + 1)))) = o + (m + k - (y - o)) by omega]
                show (if o + (m + k - (y - o)) = o + j then (x1 : Int) else if o + (m + k - (y - o)) = o + k then (x3 : Int) else F (o + (m + k - (y - o)))) = _
                by_cases h5 : m + k - (y - o) = j
                · rw [if_pos h5, if_pos (by omega)]
                · rw [if_neg h5, if_neg (by omega)]
                  by_cases h6 : m + k - (y - o) = k
                  · rw [if_pos h6, if_pos (by omega)]
                  · rw [if_neg h6, if_neg (by omega), h4]
              · rw [if_neg h3, if_pos (show y - o ≤ k by omega)]
                have h4 := hf (y - o) (by omega)
                rw [show o + (y - o) = y by omega] at h4
                show (if y = o + j then (x1 : Int) else if y = o + k then (x3 : Int) else F y) = _
                by_cases h5 : y - o = j
                · rw [if_pos h5, if_pos (by omega)]
                · rw [if_neg h5, if_neg (by omega)]
                  by_cases h6 : y - o = k
                  · rw [if_pos h6, if_pos (by omega)]
                  · rw [if_neg h6, if_neg (by omega), h4]
            · rw [if_neg h1, if_neg (show ¬ (o + (k + 1) ≤ y ∧ y < o + (k + 1) + (m - (k + 1))) by omega)]
              show (if y = o + j then (x1 : Int) else if y = o + k then (x3 : Int) else F y) = _
              rw [if_neg (by omega), if_neg (by omega)]
/-- the labels behind the first one go on to their next permutation -/
theorem adv_f (g n m c : Nat) (cur : List Nat) (a : Option Addr) (w : World) (h : RowI w 2 g n (lF (0 :: cur))) (hc : cur.length + 1 = n) (hm : m = n - 1) (ha : 0 < m → a = some ⟨g, 1, none⟩) (hmc : m ≤ c) (hn : n ≤ 1000) :
    Calls Try.prog 73 #[.slice a m c] w fun e w' => e = .returned (.bool (nextP cur).isSome) ∧ Only (fun k => k = g) w w' ∧ RowI w' 2 g n (lF (0 :: (nextP cur).getD cur)) := by
  by_cases h0 : m = 0
  · subst h0
    obtain rfl : cur = [] := List.eq_nil_of_length_eq_zero (by omega)
    refine (advance0_f a c w).mono ?_
    rintro e w' ⟨rfl, ho⟩
    exact ⟨rfl, ho.mono fun _ hk => hk.elim, RowB.only h ho (fun hk => hk)⟩
  · obtain rfl := ha (by omega)
    refine (advance_f g 1 m c n cur (lF (0 :: cur)) w h (by omega) (by omega) (fun x hx => ?_) (by omega) (by omega) hmc).mono ?_
    · unfold lF; rw [Nat.add_comm]; rfl
    · rintro e w' ⟨rfl, ho, hr⟩
      refine ⟨rfl, ho, hr.congr fun j hj => ?_⟩
      cases j with
      | zero => rw [if_neg (by omega)]; rfl
      | succ j => rw [if_pos (by omega), Nat.add_sub_cancel]; rfl
end Go.Proofs.Ytmdmojklagmmiaa
/- The comparison of renumbered tables: of the program. -/
namespace Go.Proofs.Ytmdmojklagmmiaa
open Go.RowKit
set_option linter.unusedSimpArgs false
def cmpZ (x y : Int) : Int := if x < y then -1 else if y < x then 1 else 0
theorem isNaN_f (x : Int) (w : World) : Calls Try.prog 144 #[.int .i64 x] w fun e w' => e = .returned (.bool false) ∧ w = w' := by
  have hd : (x != x) = false := by simp
  go_enter Try.func144, Try.ntmps144
  go_wp2_with fail
  go_ret
  exact ⟨rfl, rfl⟩
theorem compare_f (x y : Int) (w : World) : Calls Try.prog 116 #[.int .i64 x, .int .i64 y] w fun e w' => e = .returned (.int .i64 (cmpZ x y)) ∧ w = w' := by
  by_cases h1 : x < y
  · have hd : decide (x < y) = true := by simpa using h1
    have HF := Lib.hid (show (-1 : Int) = cmpZ x y by unfold cmpZ; rw [if_pos h1])
    clear h1
    go_enter Try.func116, Try.ntmps116
    go_wp2_with (go_at_call 144; refine (isNaN_f _ _).mono ?_; rintro e w' ⟨rfl, rfl⟩)
    go_ret
    exact ⟨ret_int HF.out, rfl⟩
  · have hd : decide (x < y) = false := by simpa using h1
    by_cases h2 : y < x
    · have hd2 : decide (y < x) = true := by simpa using h2
      have HF := Lib.hid (show (1 : Int) = cmpZ x y by unfold cmpZ; rw [if_neg h1, if_pos h2])
      clear h1 h2
      go_enter Try.func116, Try.ntmps116
      go_wp2_with (go_at_call 144; refine (isNaN_f _ _).mono ?_; rintro e w' ⟨rfl, rfl⟩)
      go_ret
      exact ⟨ret_int HF.out, rfl⟩
    · have hd2 : decide (y < x) = false := by simpa using h2
      have HF := Lib.hid (show (0 : Int) = cmpZ x y by unfold cmpZ; rw [if_neg h1, if_neg h2])
      clear h1 h2
      go_enter Try.func116, Try.ntmps116
      go_wp2_with (go_at_call 144; refine (isNaN_f _ _).mono ?_; rintro e w' ⟨rfl, rfl⟩)
      go_ret
      exact ⟨ret_int HF.out, rfl⟩
set_option maxHeartbeats 8000000 in
set_option maxRecDepth 100000 in
theorem compareRen_f (b off n c : Nat) (B O C : Nat → Nat) (B2 O2 C2 : Nat → Nat → Nat) (f : Nat → Nat → Nat → Int) (p q : List Nat) (a1 a2 : Option Addr) (c1 c2 : Nat) (w : World) (h : CubeAt w b off n B O C B2 O2 C2 f) (h1 : RdR w a1 n (lF p)) (h2 : RdR w a2 n (lF q)) (hp : ∀ i, i < n → p.getD i 0 < n) (hq : ∀ i, i < n → q.getD i 0 < n) (hn : n ≤ 1000) :
    Calls Try.prog 81 #[.agg #[.slice (some ⟨b, off, none⟩) n c], .slice a1 n c1, .slice a2 n c2] w fun e w' => ∃ v : Int, e = .returned (.int .i64 v) ∧ (v < 0 ↔ ltT n (ren f p) (ren f q)) ∧ Below w.heap.size w w' := by
  have H := Lib.hid h
  have HR1 := Lib.hid h1
  have HR2 := Lib.hid h2
  have HP := Lib.hid hp
  have HQ := Lib.hid hq
  clear h h1 h2 hp hq
  obtain ⟨W, hW⟩ : ∃ W, W = w.alloc (.cells #[.slice (some ⟨b, off, none⟩) n c] 29) := ⟨_, rfl⟩
  have HWe := Lib.hid hW
  have HW0 := Lib.hid (show Below w.heap.size w W by rw [hW]; exact below_alloc w _)
  have HWs := Lib.hid (show W.heap.size = w.heap.size + 1 by rw [hW]; simp)
  have HWc := Lib.hid (show W.cell? ⟨w.heap.size, 0, none⟩ = some (.slice (some ⟨b, off, none⟩) n c) by rw [hW]; exact cell_box _ _ _)
  clear hW
  go_enter Try.func81, Try.ntmps81
  go_wp2_with fail
  rw [← HWe.out]
  go_loopw [13] (fun x wr => ∃ i : Nat, i ≤ n ∧ x = .int .i64 i ∧ Below W.heap.size W wr ∧ ∀ a b' c', a < n → b' < n → c' < n → a < i → ren f p a b' c' = ren f q a b' c') (fun x _ => n - (intOf x).toNat)
  case atStart => exact ⟨0, by omega, rfl, Below.refl _ _, fun a _ _ _ _ _ h => absurd h (by omega)⟩
  case round =>
    obtain ⟨i, hi, rfl, hbl, hall⟩ := hrel
    have HB := Lib.hid hbl
    have HA := Lib.hid hall
    clear hbl hall
    by_cases hin : i < n
    · go_wp2_with fail
      go_loopw [18] (fun x wr => ∃ j : Nat, j ≤ n ∧ x = .int .i64 j ∧ Below W.heap.size W wr ∧ ∀ b' c', b' < n → c' < n → b' < j → ren f p i b' c' = ren f q i b' c') (fun x _ => n - (intOf x).toNat)
      case atStart => exact ⟨0, by omega, rfl, HB.out, fun _ _ _ _ h => absurd h (by omega)⟩
      case round =>
        obtain ⟨j, hj, rfl, hbl, hall⟩ := hrel
        have HB := Lib.hid hbl
        have HA2 := Lib.hid hall
        clear hbl hall
        by_cases hjn : j < n
        · go_wp2_with fail
          go_loopw [23] (fun x wr => ∃ k : Nat, k ≤ n ∧ x = .int .i64 k ∧ Below W.heap.size W wr ∧ ∀ c', c' < n → c' < k → ren f p i j c' = ren f q i j c') (fun x _ => n - (intOf x).toNat)
          case atStart => exact ⟨0, by omega, rfl, HB.out, fun _ _ h => absurd h (by omega)⟩
          case round =>
            obtain ⟨k, hk, rfl, hbl, hall⟩ := hrel
            have HB := Lib.hid hbl
            have HA3 := Lib.hid hall
            have HT := Lib.hid (HW0.out.trans (hbl.mono (by rw [HWs.out]; omega)))
            clear hbl hall
            by_cases hkn : k < n
            · have HC := Lib.hid (H.out.below HT.out)
              have e0 : wr.cell? ⟨w.heap.size, 0, none⟩ = some (.slice (some ⟨b, off, none⟩) n c) := by
                rw [HB.out.cell (p := ⟨w.heap.size, 0, none⟩) (by rw [HWs.out]; show w.heap.size < _; omega)]; exact HWc.out
              obtain ⟨g1, o1, rfl, l1, r1⟩ := HR1.out.open (by omega)
              obtain ⟨g2, o2, rfl, l2, r2⟩ := HR2.out.open (by omega)
              have rd1 : ∀ x, x < n → wr.cell? ⟨g1, o1 + x, none⟩ = some (.int .i64 (p.getD x 0 : Nat)) := fun x hx => by
                rw [HT.out.cell (p := ⟨g1, o1 + x, none⟩) l1]; exact r1 x hx
              have rd2 : ∀ x, x < n → wr.cell? ⟨g2, o2 + x, none⟩ = some (.int .i64 (q.getD x 0 : Nat)) := fun x hx => by
                rw [HT.out.cell (p := ⟨g2, o2 + x, none⟩) l2]; exact r2 x hx
              have p1 := HP.out i hin
              have p2 := HP.out j hjn
              have p3 := HP.out k hkn
              have q1 := HQ.out i hin
              have q2 := HQ.out j hjn
              have q3 := HQ.out k hkn
              have a1 := rd1 i hin
              have a2 := rd1 j hjn
              have a3 := rd1 k hkn
              have b1 := rd2 i hin
              have b2 := rd2 j hjn
              have b3 := rd2 k hkn
              have x1 := (HC.out.row _ p1).1
              have x2 := (HC.out.col _ _ p1 p2).1
              have x3 := HC.out.num _ _ _ p1 p2 p3
              have y1 := (HC.out.row _ q1).1
              have y2 := (HC.out.col _ _ q1 q2).1
              have y3 := HC.out.num _ _ _ q1 q2 q3
              have HPF := Lib.hid (show f (p.getD i 0) (p.getD j 0) (p.getD k 0) = ren f p i j k from rfl)
              have HQF := Lib.hid (show f (q.getD i 0) (q.getD j 0) (q.getD k 0) = ren f q i j k from rfl)
              rw [HPF.out] at x3
              rw [HQF.out] at y3
              clear rd1 rd2 r1 r2 HPF HQF
              generalize p.getD i 0 = pi at *
              generalize p.getD j 0 = pj at *
              generalize p.getD k 0 = pk at *
              generalize q.getD i 0 = qi at *
              generalize q.getD j 0 = qj at *
              generalize q.getD k 0 = qk at *
              generalize B pi = g3 at x1 x2
              generalize O pi = o3 at x1 x2
              generalize C pi = c3 at x1
              generalize B2 pi pj = g4 at x2 x3
              generalize O2 pi pj = o4 at x2 x3
              generalize C2 pi pj = c4 at x2
              generalize B qi = g5 at y1 y2
              generalize O qi = o5 at y1 y2
              generalize C qi = c5 at y1
              generalize B2 qi qj = g6 at y2 y3
              generalize O2 qi qj = o6 at y2 y3
              generalize C2 qi qj = c6 at y2
              obtain ⟨xv, hxv⟩ : ∃ v, v = ren f p i j k := ⟨_, rfl⟩
              obtain ⟨yv, hyv⟩ : ∃ v, v = ren f q i j k := ⟨_, rfl⟩
              rw [← hxv] at x3
              rw [← hyv] at y3
              have HX := Lib.hid hxv
              have HY := Lib.hid hyv
              clear hxv hyv
              have HCm := Lib.hid (compare_f xv yv wr.drew)
              obtain ⟨cv, hcv⟩ : ∃ v, v = cmpZ xv yv := ⟨_, rfl⟩
              rw [← hcv] at HCm
              have HCV := Lib.hid hcv
              clear hcv
              have HBf := Lib.hid (show ∀ a b' c', a < n → b' < n → c' < n → bef a b' c' i j k → ren f p a b' c' = ren f q a b' c' from fun a b' c' ha hb' hc' hbe => by
                rcases hbe with h | ⟨rfl, h | ⟨rfl, h⟩⟩
                · exact HA.out a b' c' ha hb' hc' h
                · exact HA2.out b' c' hb' hc' h
                · exact HA3.out c' hc' h)
              go_wp2_with fail
              refine wp_region_any (by kernel_rfl) ?_
              refine wpAny_still_tail 0 41 (by kernel_rfl) (by kernel_rfl) ?_
              simp only [List.take_succ_cons, List.take_zero, List.drop_succ_cons, List.drop_zero]
              repeat still_step
              refine wpStill_step (fun K hK => ?_)
              go_simp
              refine ⟨_, HCm.out.mono (fun e w' h => ⟨h.1, h.2.symm⟩), hK _ ?_⟩
              clear hK K
              repeat still_step
              refine wpStill_nil ?_
              change wpList _ _ _ _ _ wr.drew
              obtain ⟨wq, hwq⟩ : ∃ x, x = wr.drew := ⟨_, rfl⟩
              have HBq := Lib.hid (show Below W.heap.size W wq by rw [hwq]; exact HB.out.drew)
              have HTq := Lib.hid (show Below w.heap.size w wq by rw [hwq]; exact HT.out.drew)
              rw [← hwq]
              clear hwq e0 a1 a2 a3 b1 b2 b3 x1 x2 x3 y1 y2 y3 HCm HC HB HT
              by_cases hne : cv = 0
              · subst hne
                have HN := Lib.hid (show ∀ c', c' < n → c' < k + 1 → ren f p i j c' = ren f q i j c' from fun c' hc' hck => by
                  by_cases e : c' = k
                  · rw [e, ← HX.out, ← HY.out]
                    have := HCV.out
                    unfold cmpZ at this
                    by_cases e1 : xv < yv
                    · rw [if_pos e1] at this; cases this
                    · rw [if_neg e1] at this
                      by_cases e2 : yv < xv
                      · rw [if_pos e2] at this; cases this
                      · omega
                  · exact HA3.out c' hc' (by omega))
                go_wp2_with fail
                exact ⟨⟨k + 1, by omega, by go_num, HBq.out, HN.out⟩, by simp [intOf]; omega⟩
              · have hd : (cv != 0) = true := by simpa using hne
                have HN := Lib.hid (show cv < 0 ↔ ltT n (ren f p) (ren f q) by
                  have h1 := HCV.out
                  unfold cmpZ at h1
                  by_cases e1 : xv < yv
                  · rw [if_pos e1] at h1
                    exact ⟨fun _ => ⟨i, j, k, hin, hjn, hkn, HBf.out, by rw [← HX.out, ← HY.out]; exact e1⟩, fun _ => by omega⟩
                  · rw [if_neg e1] at h1
                    by_cases e2 : yv < xv
                    · rw [if_pos e2] at h1
                      exact ⟨fun h => by omega, fun h => absurd h (ltT_asym ⟨i, j, k, hin, hjn, hkn, fun a b c ha hb hc hbe => (HBf.out a b c ha hb hc hbe).symm, by rw [← HX.out, ← HY.out]; exact e2⟩)⟩
                    · rw [if_neg e2] at h1; exact absurd h1 hne)
                clear hne
                go_wp2_with fail
                go_ret
                exact ⟨cv, rfl, HN.out, HTq.out⟩
            · obtain rfl : k = n := by omega
              have HN := Lib.hid (show ∀ b' c', b' < k → c' < k → b' < j + 1 → ren f p i b' c' = ren f q i b' c' from fun b' c' hb' hc' hbj => by
                by_cases e : b' = j
                · rw [e]; exact HA3.out c' hc' hc'
                · exact HA2.out b' c' hb' hc' (by omega))
              go_wp2_with fail
              exact ⟨⟨j + 1, by omega, by go_num, HB.out, HN.out⟩, by simp [intOf]; omega⟩
        · obtain rfl : j = n := by omega
          have HN := Lib.hid (show ∀ a b' c', a < j → b' < j → c' < j → a < i + 1 → ren f p a b' c' = ren f q a b' c' from fun a b' c' ha hb' hc' hai => by
            by_cases e : a = i
            · rw [e]; exact HA2.out b' c' hb' hc' hb'
            · exact HA.out a b' c' ha hb' hc' (by omega))
          go_wp2_with fail
          exact ⟨⟨i + 1, by omega, by go_num, HB.out, HN.out⟩, by simp [intOf]; omega⟩
    · obtain rfl : i = n := by omega
      have HN := Lib.hid (show (0 : Int) < 0 ↔ ltT i (ren f p) (ren f q) from ⟨fun h => by omega, fun h => absurd h (eqT_not fun a b' c' ha hb' hc' => HA.out a b' c' ha hb' hc' ha)⟩)
      have HT := Lib.hid (HW0.out.trans (HB.out.mono (by rw [HWs.out]; omega)))
      go_wp2_with fail
      go_ret
      exact ⟨0, rfl, HN.out, HT.out⟩
end Go.Proofs.Ytmdmojklagmmiaa
