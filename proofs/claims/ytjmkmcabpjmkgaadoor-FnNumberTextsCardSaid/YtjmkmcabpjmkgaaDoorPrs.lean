/- Texts of numbers are parsed to them, without Go. -/
import Derived.Test.YtjmkmcabpjmkgaaDoorNumK
import Derived.Test.YtjmkmcabpjmkgaaDoorNumC
import Derived.Lib.AtoiTie
import Derived.Lib.ParseIntBTie
import Derived.Lib.IndexMore
namespace Go.Proofs.YtjmkmcabpjmkgaaDoor
open Go.RowKit
theorem digitVal_dec (d : Nat) (h : d < 10) : Lib.digitVal (UInt8.ofNat (48 + d)) = some d := by
  have e : (UInt8.ofNat (48 + d)).toNat = 48 + d := by rw [UInt8.toNat_ofNat']; omega
  unfold Lib.digitVal
  rw [e, if_pos (by omega)]
  congr 1; omega
theorem decFrom_snoc : ∀ (l : List UInt8) (acc n d : Nat) (b : UInt8), Lib.decFrom acc l = some n → Lib.digitVal b = some d → Lib.decFrom acc (l ++ [b]) = some (n * 10 + d) := by
  intro l acc n d b h hd
  have := Lib.decFrom_take (l ++ [b]) l.length acc n b d (by simpa using h) (by simp) hd
  rwa [List.take_of_length_le (by simp)] at this
theorem decFrom_dec (u : Nat) : Lib.decFrom 0 (Lib.decDigits u) = some u := by
  induction u using Nat.strongRecOn with
  | ind u ih =>
    by_cases h : u < 10
    · rw [dec_lt u h]
      simp only [Lib.decFrom, digitVal_dec u h]
      simp
    · rw [dec_ge u h, decFrom_snoc _ _ _ _ _ (ih (u / 10) (by omega)) (digitVal_dec (u % 10) (by omega))]
      congr 1; omega
theorem dec_bytes (u : Nat) : ∀ b ∈ Lib.decDigits u, 48 ≤ b.toNat ∧ b.toNat ≤ 57 := by
  induction u using Nat.strongRecOn with
  | ind u ih =>
    have one : ∀ d, d < 10 → 48 ≤ (UInt8.ofNat (48 + d)).toNat ∧ (UInt8.ofNat (48 + d)).toNat ≤ 57 := fun d hd => by
      rw [UInt8.toNat_ofNat']; omega
    by_cases h : u < 10
    · rw [dec_lt u h]
      intro b hb
      rw [List.mem_singleton.1 hb]
      exact one u h
    · rw [dec_ge u h]
      intro b hb
      rcases List.mem_append.1 hb with hb | hb
      · exact ih (u / 10) (by omega) b hb
      · rw [List.mem_singleton.1 hb]
        exact one _ (by omega)
theorem dec_no47 (u : Nat) : ∀ b ∈ Lib.decDigits u, b ≠ 47 := fun b hb e => by
  have := dec_bytes u b hb
  rw [e] at this
  exact absurd this.1 (by decide)
theorem dec_short : ∀ (k u : Nat), 1 ≤ k → u < 10 ^ k → (Lib.decDigits u).length ≤ k := by
  intro k
  induction k with
  | zero => intro u h; omega
  | succ k ih =>
    intro u _ hu
    by_cases h : u < 10
    · rw [dec_lt u h]; simp
    · rw [dec_ge u h]
      have hk : 1 ≤ k := by
        rcases Nat.eq_zero_or_pos k with h0 | h0
        · subst h0; simp at hu; omega
        · exact h0
      rw [Nat.pow_succ] at hu
      have := ih (u / 10) hk (by omega)
      simp; omega
theorem dec_cons (u : Nat) : ∃ b r, Lib.decDigits u = b :: r ∧ 48 ≤ b.toNat ∧ b.toNat ≤ 57 := by
  cases h : Lib.decDigits u with
  | nil =>
    exfalso
    by_cases hu : u < 10
    · rw [dec_lt u hu] at h; simp at h
    · rw [dec_ge u hu] at h; simp at h
  | cons b r =>
    have := dec_bytes u b (by rw [h]; simp)
    exact ⟨b, r, rfl, this.1, this.2⟩
theorem decNat_dec (u : Nat) : Lib.decNat (Lib.decDigits u) = some u := by
  obtain ⟨b, r, h, _⟩ := dec_cons u
  unfold Lib.decNat
  rw [decFrom_dec, h]; rfl
theorem atoi_dec (u : Nat) : Lib.atoi (Lib.decDigits u) = some (u : Int) := by
  obtain ⟨b, r, h, h1, h2⟩ := dec_cons u
  have hd := decNat_dec u
  rw [h] at hd ⊢
  have n45 : (b == 45) = false := by rw [beq_eq_false_iff_ne]; intro e; rw [e] at h1; exact absurd h1 (by decide)
  have n43 : (b == 43) = false := by rw [beq_eq_false_iff_ne]; intro e; rw [e] at h1; exact absurd h1 (by decide)
  simp [Lib.atoi, n45, n43, hd]
theorem atoi_neg (u : Nat) : Lib.atoi (45 :: Lib.decDigits u) = some (-(u : Int)) := by
  simp [Lib.atoi, decNat_dec]
theorem parse_itoa (n : Int) (h0 : -1000000 ≤ n) (h1 : n ≤ 1000000) : Lib.parseIntB 64 (Lib.itoa n) = .ok n := by
  rw [Lib.parseIntB_64]
  by_cases hn : n < 0
  · rw [itoa_ng hn]
    have hl := dec_short 7 n.natAbs (by omega) (by omega)
    rw [Lib.atoiAll_short _ (by simp; omega), atoi_neg]
    show Lib.NumEnd.ok _ = _
    congr 1; omega
  · rw [itoa_nn (by omega)]
    have hl := dec_short 7 n.toNat (by omega) (by omega)
    rw [Lib.atoiAll_short _ (by omega), atoi_dec]
    show Lib.NumEnd.ok _ = _
    congr 1; omega
theorem occ47 (s : List UInt8) (j : Nat) : Lib.occAt s [47] j = (s[j]? == some 47) := by
  unfold Lib.occAt
  by_cases hj : j < s.length
  · rw [List.drop_eq_getElem_cons hj, List.getElem?_eq_getElem hj]
    simp [List.isPrefixOf]
    rw [Bool.eq_iff_iff]; simp; exact eq_comm
  · rw [List.drop_eq_nil_of_le (by omega), List.getElem?_eq_none (by omega)]
    rfl
theorem cut_none (s : List UInt8) (h : ∀ b ∈ s, b ≠ 47) : Lib.cut s [47] = (s, [], false) := by
  have e : Lib.index s [47] = -1 := Lib.index_none (fun j _ => by
    rw [occ47]
    cases hs : s[j]? with
    | none => rfl
    | some b =>
      have := h b (List.mem_of_getElem? hs)
      simp [this])
  unfold Lib.cut
  rw [e]; rfl
theorem cut_at (x y : List UInt8) (h : ∀ b ∈ x, b ≠ 47) : Lib.cut (x ++ 47 :: y) [47] = (x, y, true) := by
  have e : Lib.index (x ++ 47 :: y) [47] = (x.length : Int) := Lib.index_first (by simp) (by rw [occ47]; simp) (fun j hj => by
    rw [occ47, List.getElem?_append_left hj, List.getElem?_eq_getElem hj]
    have := h _ (List.getElem_mem hj)
    simp [this])
  unfold Lib.cut
  rw [e, if_pos (by omega)]
  simp
/-- what a text is parsed to before it is compared with the text of the result -/
def fracT (p q : Int) : Option Int := if cFrac p q = 0 then some (fFrac p q) else none
def decT (t : List UInt8) : Option Int :=
  match Lib.parseIntB 64 (Lib.cut t [47]).1, Lib.parseIntB 64 (if (Lib.cut t [47]).2.2 = true then (Lib.cut t [47]).2.1 else [49]) with
  | .ok p, .ok q => fracT p q
  | _, _ => none
theorem decT_of {t x y : List UInt8} {c : Bool} {p q : Int} (hc : Lib.cut t [47] = (x, y, c)) (hp : Lib.parseIntB 64 x = .ok p) (hq : Lib.parseIntB 64 (if c = true then y else [49]) = .ok q) : decT t = fracT p q := by
  unfold decT
  rw [hc]
  simp only [hp, hq]
theorem short_law (a : Int) (h : sq a ≠ 0) : sp a % 55441 = a * sq a % 55441 ∧ 1 ≤ sq a ∧ sq a ≤ 166 := by
  have key : ∀ (n : Nat) (q : Int), 1 ≤ q → q + n ≤ 167 → (shSearch a n q).2 ≠ 0 → (shSearch a n q).1 % 55441 = a * (shSearch a n q).2 % 55441 ∧ 1 ≤ (shSearch a n q).2 ∧ (shSearch a n q).2 ≤ 166 := by
    intro n
    induction n with
    | zero => intro q _ _ h; simp [shSearch] at h
    | succ n ih =>
      intro q h1 h2 hz
      rw [shSearch] at hz ⊢
      split
      · refine ⟨?_, h1, by simp; omega⟩
        show shP a q % 55441 = a * q % 55441
        unfold shP; split <;> omega
      · rename_i hn
        rw [if_neg hn] at hz
        exact ih (q + 1) (by omega) (by omega) hz
  exact key 166 1 (by omega) (by omega) h
theorem inv_int' (b : Int) (h0 : 0 < b) (h1 : b < 55441) : b * pwI b 55439 % 55441 = 1 := by
  have h := NT.inv_mul b.toNat (by omega)
  unfold pwI
  have e1 : (55439 : Int).toNat = 55439 := rfl
  rw [e1]
  generalize b.toNat ^ 55439 % 55441 = x at *
  obtain ⟨m, rfl⟩ := Int.eq_ofNat_of_zero_le (show 0 ≤ b by omega)
  rw [Int.toNat_natCast] at h
  rw [← Int.natCast_mul]
  omega
theorem fracT_short (a p q : Int) (h0 : 0 ≤ a) (h1 : a < 55441) (hq : 1 ≤ q) (hq' : q ≤ 166) (hp : -1000000 ≤ p) (hp' : p ≤ 1000000) (h : p % 55441 = a * q % 55441) : fracT p q = some a := by
  have b1 : big9 p = true := inB_mk (by omega) (by omega)
  have b2 : big9 q = true := inB_mk (by omega) (by omega)
  have hz : ¬ q % 55441 = 0 := by omega
  have eq : q % 55441 = q := by omega
  have hi := inv_int' q (by omega) (by omega)
  have e : fFrac p q = a := by
    have : fFrac p q = p % 55441 * pwI (q % 55441) 55439 % 55441 := by simp [fFrac, b1, b2, hz]
    rw [this, eq, h]
    have e2 : a * q % 55441 * pwI q 55439 % 55441 = a * q * pwI q 55439 % 55441 := by rw [Int.mul_emod, Int.emod_emod_of_dvd _ (Int.dvd_refl _), ← Int.mul_emod]
    rw [e2, Int.mul_assoc, Int.mul_emod, hi]
    omega
  unfold fracT
  rw [if_pos (by simp [cFrac, b1, b2, hz]), e]
theorem parse_one : Lib.parseIntB 64 [49] = .ok 1 := by
  have := parse_itoa 1 (by omega) (by omega)
  have e : Lib.itoa 1 = [49] := by rw [itoa_nn (by omega)]; exact dec_lt 1 (by omega)
  rwa [e] at this
theorem itoa_no47 (n : Int) : ∀ b ∈ Lib.itoa n, b ≠ 47 := by
  unfold Lib.itoa
  split
  · intro b hb
    rcases List.mem_cons.1 hb with rfl | hb
    · decide
    · exact dec_no47 _ b hb
  · exact dec_no47 _
/-- the text of a number is parsed to it -/
theorem decT_txt (a : Int) (h0 : 0 ≤ a) (h1 : a < 55441) : decT (txtN a) = some a := by
  obtain ⟨p0, p1, _, _⟩ := sp_bd a
  by_cases hz : sq a = 0
  · rw [txt_no hz, ← itoa_nn h0]
    rw [decT_of (cut_none _ (itoa_no47 a)) (parse_itoa a (by omega) (by omega)) (by exact parse_one)]
    exact fracT_short a a 1 h0 h1 (by omega) (by omega) (by omega) (by omega) (by omega)
  · obtain ⟨hs, q0, q1⟩ := short_law a hz
    rw [txt_itoa hz]
    by_cases h1q : sq a = 1
    · rw [if_pos h1q, List.append_nil, decT_of (cut_none _ (itoa_no47 _)) (parse_itoa _ (by omega) (by omega)) (by exact parse_one)]
      exact fracT_short a _ 1 h0 h1 (by omega) (by omega) (by omega) (by omega) (by rw [hs, h1q])
    · rw [if_neg h1q, ← itoa_nn (show 0 ≤ sq a by omega), decT_of (cut_at _ _ (itoa_no47 _)) (parse_itoa _ (by omega) (by omega)) (by rw [if_pos rfl]; exact parse_itoa _ (by omega) (by omega))]
      exact fracT_short a _ _ h0 h1 q0 q1 (by omega) (by omega) hs
theorem decT_bd {t : List UInt8} {a : Int} (h : decT t = some a) : 0 ≤ a ∧ a < 55441 := by
  unfold decT at h
  split at h
  · unfold fracT at h
    split at h
    · have := Option.some.inj h
      rw [← this]
      unfold fFrac
      split
      · exact ⟨Int.emod_nonneg _ (by decide), Int.emod_lt_of_pos _ (by decide)⟩
      · omega
    · cases h
  · cases h
/-- what a text is parsed to, with the code -/
def prV (t : List UInt8) : Int := match decT t with | some a => if txtN a = t then a else 0 | none => 0
def prC (t : List UInt8) : Int := match decT t with | some a => if txtN a = t then 0 else 6 | none => 6
theorem pr_none {t : List UInt8} (h : decT t = none) : (0 : Int) = prV t ∧ (6 : Int) = prC t := by simp [prV, prC, h]
theorem pr_ne {t : List UInt8} {a : Int} (h : decT t = some a) (h' : ¬ txtN a = t) : (0 : Int) = prV t ∧ (6 : Int) = prC t := by simp [prV, prC, h, h']
theorem pr_eq {t : List UInt8} {a : Int} (h : decT t = some a) (h' : txtN a = t) : a = prV t ∧ (0 : Int) = prC t := by simp [prV, prC, h, h']
end Go.Proofs.YtjmkmcabpjmkgaaDoor
