/- Sets of labels as numbers: bits, lists of labels, unions. -/
import Derived.Test.YtpfodikmidgpmaaDoorSbM
import Derived.Laws.Bits64b
import Derived.RangeFuncNested
import Derived.RangeFuncBound
import Derived.RangeFuncCalls
import Derived.RangeFuncLeaves
import Derived.Shelf.Abstract
import Derived.Shelf.RegionOpen
import Derived.WalkKit
import Derived.OwnWalkIn
import Derived.TacticsInMore
import Derived.LoopNIn
import Derived.LoopIn
namespace Go.Proofs.YtpfodikmidgpmaaDoor
set_option linter.unusedSimpArgs false
set_option linter.unusedVariables false
theorem wrap_i64_nat {x : Nat} (h : x < 4611686018427387904) : IntKind.i64.wrap (x : Int) = (x : Int) := by
  simp [IntKind.wrap, IntKind.bits, IntKind.signed]; omega
theorem ofInt64_nat {a : Nat} (h : a < 4611686018427387904) : (BitVec.ofInt 64 (a : Int)).toNat = a := by
  rw [BitVec.ofInt_natCast, BitVec.toNat_ofNat]; exact Nat.mod_eq_of_lt (by omega)
theorem and_i64 {a b : Nat} (ha : a < 4611686018427387904) (hb : b < 4611686018427387904) : bits .and .i64 (a : Int) (b : Int) = ((a &&& b : Nat) : Int) := by
  have hx : a &&& b < 2 ^ 62 := Nat.and_lt_two_pow _ (by omega)
  show IntKind.i64.wrap ((BitVec.ofInt 64 (a : Int) &&& BitVec.ofInt 64 (b : Int)).toNat : Int) = _
  rw [BitVec.toNat_and, ofInt64_nat ha, ofInt64_nat hb, wrap_i64_nat (by omega)]
theorem or_i64 {a b : Nat} (ha : a < 4611686018427387904) (hb : b < 4611686018427387904) : bits .or .i64 (a : Int) (b : Int) = ((a ||| b : Nat) : Int) := by
  have hx : a ||| b < 2 ^ 62 := Nat.or_lt_two_pow (by omega) (by omega)
  show IntKind.i64.wrap ((BitVec.ofInt 64 (a : Int) ||| BitVec.ofInt 64 (b : Int)).toNat : Int) = _
  rw [BitVec.toNat_or, ofInt64_nat ha, ofInt64_nat hb, wrap_i64_nat (by omega)]
theorem andNot_bv (x y : BitVec 64) : x &&& ~~~y = x ^^^ (x &&& y) := by
  apply BitVec.eq_of_getLsbD_eq
  intro i hi
  simp only [BitVec.getLsbD_and, BitVec.getLsbD_not, BitVec.getLsbD_xor, hi, decide_true, Bool.true_and]
  cases x.getLsbD i <;> cases y.getLsbD i <;> rfl
theorem andNot_i64 {a b : Nat} (ha : a < 4611686018427387904) (hb : b < 4611686018427387904) : bits .andNot .i64 (a : Int) (b : Int) = ((a ^^^ (a &&& b) : Nat) : Int) := by
  have hx : a &&& b < 2 ^ 62 := Nat.and_lt_two_pow _ (by omega)
  have hy : a ^^^ (a &&& b) < 2 ^ 62 := Nat.xor_lt_two_pow (by omega) hx
  show IntKind.i64.wrap ((BitVec.ofInt 64 (a : Int) &&& ~~~ BitVec.ofInt 64 (b : Int)).toNat : Int) = _
  rw [andNot_bv, BitVec.toNat_xor, BitVec.toNat_and, ofInt64_nat ha, ofInt64_nat hb, wrap_i64_nat (by omega)]
theorem div_pow_nat (s i : Nat) : ((s : Int) / 2 ^ i) = ((s / 2 ^ i : Nat) : Int) := by
  rw [Int.natCast_ediv, Int.natCast_pow]; rfl
theorem bit_i64 {s : Nat} (hs : s < 4611686018427387904) (i : Nat) : (bits .and .i64 ((s : Int) / 2 ^ i) 1 == 1) = s.testBit i := by
  have hd : s / 2 ^ i < 4611686018427387904 := Nat.lt_of_le_of_lt (Nat.div_le_self _ _) hs
  have h := and_i64 hd (show 1 < 4611686018427387904 by omega)
  rw [div_pow_nat, show (1 : Int) = ((1 : Nat) : Int) from rfl, h, Nat.and_one_is_mod, Nat.testBit_eq_decide_div_mod_eq]
  by_cases e : s / 2 ^ i % 2 = 1
  · rw [e]; simp
  · rw [decide_eq_false e]
    have : s / 2 ^ i % 2 = 0 := by omega
    rw [this]; rfl
theorem shr_pos (s i : Nat) : (0 < (s : Int) / 2 ^ i) ↔ 2 ^ i ≤ s := by
  rw [div_pow_nat]
  have hp : 0 < 2 ^ i := Nat.pow_pos (by omega)
  constructor
  · intro h
    have h' : 1 ≤ s / 2 ^ i := by omega
    have := (Nat.le_div_iff_mul_le hp).1 h'
    omega
  · intro h
    have : 1 ≤ s / 2 ^ i := (Nat.le_div_iff_mul_le hp).2 (by omega)
    omega
/-- a part of a set -/
def subS (a b : Nat) : Prop := ∀ i, a.testBit i = true → b.testBit i = true
theorem sub_i64 {a b : Nat} : (a ^^^ (a &&& b) = 0) ↔ subS a b := by
  constructor
  · intro h i hi
    have e : (a ^^^ (a &&& b)).testBit i = false := by rw [h]; exact Nat.zero_testBit i
    rw [Nat.testBit_xor, Nat.testBit_and, hi] at e
    cases hb : b.testBit i
    · rw [hb] at e; cases e
    · rfl
  · intro h
    apply Nat.eq_of_testBit_eq
    intro i
    rw [Nat.testBit_xor, Nat.testBit_and, Nat.zero_testBit]
    cases ha : a.testBit i
    · rfl
    · rw [h i ha]; rfl
theorem set_ext {a b : Nat} (h : ∀ i, a.testBit i = true ↔ b.testBit i = true) : a = b :=
  Nat.eq_of_testBit_eq fun i => by
    have := h i
    cases ha : a.testBit i <;> cases hb : b.testBit i <;> simp_all
theorem bit_lt {s n i : Nat} (hs : s < 2 ^ n) (h : s.testBit i = true) : i < n := by
  refine Classical.byContradiction fun hc => ?_
  have := Nat.testBit_lt_two_pow (x := s) (i := i) (Nat.lt_of_lt_of_le hs (Nat.pow_le_pow_right (by omega) (by omega)))
  rw [this] at h; cases h
theorem sub_le {a b : Nat} (h : subS a b) : a ≤ b := by
  have e : b = a ||| b := set_ext fun i => by
    rw [Nat.testBit_or, Bool.or_eq_true]
    exact ⟨fun x => .inr x, fun x => x.elim (h i) id⟩
  rw [e]; exact Nat.left_le_or
theorem sub_anti {a b : Nat} (h : subS a b) (k : subS b a) : a = b := set_ext fun i => ⟨h i, k i⟩
theorem pow_le16 {n : Nat} (h : n ≤ 16) : 2 ^ n ≤ 65536 := Nat.pow_le_pow_right (n := 2) (by omega) h
/-- the labels of a set in ascending order, below m -/
def lbM (s m : Nat) : List Nat := (List.range m).filter fun i => s.testBit i
def lbl (s : Nat) : List Nat := lbM s 16
theorem lbM_yes {s m : Nat} (h : s.testBit m = true) : lbM s (m + 1) = lbM s m ++ [m] := by unfold lbM; rw [List.range_succ, List.filter_append]; simp [h]
theorem lbM_no {s m : Nat} (h : s.testBit m = false) : lbM s (m + 1) = lbM s m := by unfold lbM; rw [List.range_succ, List.filter_append]; simp [h]
theorem lbM_top {s m : Nat} (hs : s < 2 ^ m) (h16 : m ≤ 16) : lbM s m = lbl s := by
  have : ∀ k, lbM s (m + k) = lbM s m := by
    intro k
    induction k with
    | zero => rfl
    | succ k ih =>
      rw [← Nat.add_assoc, lbM_no, ih]
      cases h : s.testBit (m + k) with
      | false => rfl
      | true => have := bit_lt hs h; omega
  unfold lbl
  rw [show 16 = m + (16 - m) by omega]
  exact (this _).symm
theorem lbM_pre (s i d : Nat) : lbM s i <+: lbM s (i + d) := by
  induction d with
  | zero => exact List.prefix_refl _
  | succ d ih =>
    refine ih.trans ?_
    rw [← Nat.add_assoc]
    cases h : s.testBit (i + d) with
    | true => rw [lbM_yes h]; exact List.prefix_append _ _
    | false => rw [lbM_no h]; exact List.prefix_refl _
theorem mem_lbl {s i : Nat} (hs : s < 65536) : i ∈ lbl s ↔ s.testBit i = true := by
  unfold lbl lbM
  rw [List.mem_filter, List.mem_range]
  exact ⟨fun h => h.2, fun h => ⟨bit_lt (n := 16) hs h, h⟩⟩
theorem lbM_len (s m : Nat) : (lbM s m).length ≤ m := by
  unfold lbM
  exact Nat.le_trans (List.length_filter_le _ _) (by simp)
/-- the union of sets, of a list -/
def orl (g : Nat → Nat) (s : Nat) (l : List Nat) : Nat := l.foldl (fun s i => s ||| g i) s
theorem orl_snoc (g : Nat → Nat) (s : Nat) (l : List Nat) (i : Nat) : orl g s (l ++ [i]) = orl g s l ||| g i := by simp [orl]
theorem orl_bit (g : Nat → Nat) (s : Nat) (l : List Nat) (k : Nat) : (orl g s l).testBit k = true ↔ s.testBit k = true ∨ ∃ i ∈ l, (g i).testBit k = true := by
  unfold orl
  induction l generalizing s with
  | nil => simp
  | cons x l ih =>
    rw [List.foldl_cons, ih, Nat.testBit_or, Bool.or_eq_true]
    simp only [List.mem_cons, exists_eq_or_imp, or_assoc]
theorem orl_lt {g : Nat → Nat} {n : Nat} : ∀ {l : List Nat} {s : Nat}, s < 2 ^ n → (∀ i ∈ l, g i < 2 ^ n) → orl g s l < 2 ^ n := by
  intro l
  induction l with
  | nil => exact fun h _ => h
  | cons x l ih => exact fun h hg => ih (Nat.or_lt_two_pow h (hg x (by simp))) fun i hi => hg i (by simp [hi])
open Classical in
/-- what a condition on labels tells, as a set -/
noncomputable def bset (P : Nat → Prop) : Nat → Nat
  | 0 => 0
  | m + 1 => if P m then bset P m ||| 2 ^ m else bset P m
theorem bset_lt (P : Nat → Prop) (m : Nat) : bset P m < 2 ^ m := by
  induction m with
  | zero => simp [bset]
  | succ m ih =>
    have h1 : bset P m < 2 ^ (m + 1) := Nat.lt_of_lt_of_le ih (Nat.pow_le_pow_right (by omega) (by omega))
    have h2 : 2 ^ m < 2 ^ (m + 1) := Nat.pow_lt_pow_right (by omega) (by omega)
    simp only [bset]
    split
    · exact Nat.or_lt_two_pow h1 h2
    · exact h1
theorem bset_bit (P : Nat → Prop) (m i : Nat) : (bset P m).testBit i = true ↔ i < m ∧ P i := by
  induction m with
  | zero => simp [bset]
  | succ m ih =>
    simp only [bset]
    split
    · rename_i hp
      rw [Nat.testBit_or, Bool.or_eq_true, ih, Nat.testBit_two_pow, decide_eq_true_iff]
      constructor
      · rintro (⟨h1, h2⟩ | rfl)
        · exact ⟨by omega, h2⟩
        · exact ⟨by omega, hp⟩
      · rintro ⟨h1, h2⟩
        by_cases e : m = i
        · exact .inr e
        · exact .inl ⟨by omega, h2⟩
    · rename_i hp
      rw [ih]
      constructor
      · rintro ⟨h1, h2⟩; exact ⟨by omega, h2⟩
      · rintro ⟨h1, h2⟩
        refine ⟨?_, h2⟩
        by_cases e : i = m
        · subst e; exact absurd h2 hp
        · omega
/-- the labels that occur in the product of i and j -/
noncomputable def occ (n : Nat) (f : Nat → Nat → Nat → Int) (i j : Nat) : Nat := bset (fun k => f i j k ≠ 0) n
theorem occ_bit {n : Nat} {f : Nat → Nat → Nat → Int} {i j k : Nat} : (occ n f i j).testBit k = true ↔ k < n ∧ f i j k ≠ 0 := bset_bit _ _ _
theorem occ_lt (n : Nat) (f : Nat → Nat → Nat → Int) (i j : Nat) : occ n f i j < 2 ^ n := bset_lt _ _
/-- closed under products -/
def Cls (n : Nat) (f : Nat → Nat → Nat → Int) (s : Nat) : Prop := ∀ i j k, i < n → j < n → k < n → s.testBit i = true → s.testBit j = true → f i j k ≠ 0 → s.testBit k = true
/-- a subring -/
def Sbr (n : Nat) (f : Nat → Nat → Nat → Int) (s : Nat) : Prop := s < 2 ^ n ∧ s.testBit 0 = true ∧ Cls n f s
theorem sbr_dual {n : Nat} {f : Nat → Nat → Nat → Int} (R : Rng n f) {s : Nat} (h : Cls n f s) {i : Nat} (hi : i < n) (hs : s.testBit i = true) : s.testBit (dn n f i) = true :=
  cls_dual (S := fun i => s.testBit i = true) R h hi hs
/-- g is the least subring with s -/
def IsGen (n : Nat) (f : Nat → Nat → Nat → Int) (s g : Nat) : Prop := Sbr n f g ∧ subS s g ∧ ∀ t, Sbr n f t → subS s t → subS g t
theorem gen_unique {n : Nat} {f : Nat → Nat → Nat → Int} {s g h : Nat} (hg : IsGen n f s g) (hh : IsGen n f s h) : g = h :=
  sub_anti (hg.2.2 h hh.1 hh.2.1) (hh.2.2 g hg.1 hg.2.1)
open Classical in
noncomputable def genS (n : Nat) (f : Nat → Nat → Nat → Int) (s : Nat) : Nat := if h : ∃ g, IsGen n f s g then Classical.choose h else 0
theorem gen_eq {n : Nat} {f : Nat → Nat → Nat → Int} {s g : Nat} (h : IsGen n f s g) : g = genS n f s := by
  have hx : ∃ g, IsGen n f s g := ⟨g, h⟩
  unfold genS
  rw [dif_pos hx]
  exact gen_unique h (Classical.choose_spec hx)
end Go.Proofs.YtpfodikmidgpmaaDoor
