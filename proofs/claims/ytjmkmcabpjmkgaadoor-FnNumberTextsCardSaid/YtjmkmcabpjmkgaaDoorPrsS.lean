/- The other way to parse the text of a number, without Go. -/
import Derived.Test.YtjmkmcabpjmkgaaDoorPrs
namespace Go.Proofs.YtjmkmcabpjmkgaaDoor
open Go.RowKit
def vloop : Int → List UInt8 → Int
  | n, [] => n
  | n, b :: r => if b.toNat < 48 ∨ 57 < b.toNat then -1 else vloop (n * 10 + ((b.toNat : Int) - 48)) r
def spV (s : List UInt8) : Int := if s.length = 0 ∨ 9 < s.length ∨ (1 < s.length ∧ s.head? = some 48) then -1 else vloop 0 s
def spl : List UInt8 → List UInt8 → List (List UInt8)
  | cur, [] => [cur]
  | cur, b :: r => if b = 47 then cur :: spl [] r else spl (cur ++ [b]) r
theorem spl_ne (l : List UInt8) : ∀ cur, spl cur l ≠ [] := by
  induction l with
  | nil => intro cur; simp [spl]
  | cons b r ih => intro cur; rw [spl]; split; · simp
                   · exact ih _
theorem spl_len (l : List UInt8) : ∀ cur, ∀ x ∈ spl cur l, x.length ≤ cur.length + l.length := by
  induction l with
  | nil => intro cur x hx; simp [spl] at hx; subst hx; simp
  | cons b r ih =>
    intro cur x hx
    rw [spl] at hx
    split at hx
    · rcases List.mem_cons.1 hx with rfl | hx
      · simp
      · have := ih _ x hx; simp at this ⊢; omega
    · have := ih _ x hx; simp at this ⊢; omega
theorem spl_none (l : List UInt8) : ∀ cur, (∀ b ∈ l, b ≠ 47) → spl cur l = [cur ++ l] := by
  induction l with
  | nil => intro cur _; simp [spl]
  | cons b r ih =>
    intro cur h
    rw [spl, if_neg (h b (by simp)), ih _ (fun x hx => h x (by simp [hx]))]
    simp
theorem spl_at (x y : List UInt8) : ∀ cur, (∀ b ∈ x, b ≠ 47) → spl cur (x ++ 47 :: y) = (cur ++ x) :: spl [] y := by
  induction x with
  | nil => intro cur _; simp [spl]
  | cons b r ih =>
    intro cur h
    rw [List.cons_append, spl, if_neg (h b (by simp)), ih _ (fun x hx => h x (by simp [hx]))]
    simp
theorem vloop_dig (l : List UInt8) : ∀ n, (∀ b ∈ l, 48 ≤ b.toNat ∧ b.toNat ≤ 57) → vloop n l = l.foldl (fun n b => n * 10 + ((b.toNat : Int) - 48)) n := by
  induction l with
  | nil => intro n _; rfl
  | cons b r ih =>
    intro n h
    have hb := h b (by simp)
    rw [vloop, if_neg (by omega), ih _ (fun x hx => h x (by simp [hx]))]
    rfl
theorem one_dig (d : Nat) (h : d < 10) : ((UInt8.ofNat (48 + d)).toNat : Int) - 48 = d := by
  rw [UInt8.toNat_ofNat']; omega
theorem fold_dec (u : Nat) : (Lib.decDigits u).foldl (fun (n : Int) b => n * 10 + ((b.toNat : Int) - 48)) 0 = u := by
  induction u using Nat.strongRecOn with
  | ind u ih =>
    by_cases h : u < 10
    · rw [dec_lt u h]
      rw [List.foldl_cons, List.foldl_nil, one_dig u h]; omega
    · rw [dec_ge u h, List.foldl_append, ih (u / 10) (by omega), List.foldl_cons, List.foldl_nil, one_dig _ (by omega)]
      omega
theorem head_dec (u : Nat) (h0 : 1 ≤ u) : (Lib.decDigits u).head? ≠ some 48 := by
  induction u using Nat.strongRecOn with
  | ind u ih =>
    by_cases h : u < 10
    · rw [dec_lt u h]
      intro e
      have e' := Option.some.inj e
      have : (UInt8.ofNat (48 + u)).toNat = (48 : UInt8).toNat := by rw [e']
      rw [UInt8.toNat_ofNat'] at this
      have e48 : (48 : UInt8).toNat = 48 := rfl
      omega
    · rw [dec_ge u h]
      obtain ⟨b, r, hd, _⟩ := dec_cons (u / 10)
      have := ih (u / 10) (by omega) (by omega)
      rw [hd] at this ⊢
      simpa using this
theorem spV_dec (u : Nat) (h : u ≤ 1000000) : spV (Lib.decDigits u) = u := by
  have hl := dec_short 7 u (by omega) (by omega)
  obtain ⟨b, r, hd, _⟩ := dec_cons u
  have hne : (Lib.decDigits u).length ≠ 0 := by rw [hd]; simp
  unfold spV
  rw [if_neg (by
    rintro (h1 | h1 | ⟨h1, h2⟩)
    · exact hne h1
    · omega
    · by_cases hu : u < 10
      · rw [dec_lt u hu] at h1; simp at h1
      · exact head_dec u (by omega) h2), vloop_dig _ _ (dec_bytes u), fold_dec]
def spNeg (t : List UInt8) : Bool := t.head? == some 45
def spBody (t : List UInt8) : List UInt8 := if spNeg t = true then t.drop 1 else t
def spSign (t : List UInt8) : Int := if spNeg t = true then -1 else 1
def spParts (t : List UInt8) : List (List UInt8) := spl [] (spBody t)
def spP (t : List UInt8) : Int := spV ((spParts t).getD 0 [])
def spQ (t : List UInt8) : Int := if (spParts t).length = 2 then spV ((spParts t).getD 1 []) else 1
def spBad (t : List UInt8) : Prop := 2 < (spParts t).length ∨ spP t < 0 ∨ spQ t < 1 ∨ spQ t % 55441 = 0
def spA (t : List UInt8) : Int := spSign t * (spP t % 55441) % 55441 * pwI (spQ t % 55441) 55439 % 55441
theorem spA_bd (t : List UInt8) : 0 ≤ spA t ∧ spA t < 55441 := ⟨Int.emod_nonneg _ (by decide), Int.emod_lt_of_pos _ (by decide)⟩
theorem spA_of (t : List UInt8) (a p : Int) (hq : 1 ≤ spQ t) (hq' : spQ t ≤ 166) (h0 : 0 ≤ a) (h1 : a < 55441) (hp : -1000000 ≤ p) (hp' : p ≤ 1000000) (h : p % 55441 = a * spQ t % 55441) (hs : spSign t * (spP t % 55441) % 55441 = p % 55441) : spA t = a := by
  have e := fracT_short a p (spQ t) h0 h1 hq hq' hp hp' h
  unfold fracT at e
  split at e
  · have e := Option.some.inj e
    rw [← e]
    have b1 : big9 p = true := inB_mk (by omega) (by omega)
    have b2 : big9 (spQ t) = true := inB_mk (by omega) (by omega)
    have hz : ¬ spQ t % 55441 = 0 := by omega
    unfold spA
    rw [hs]
    simp [fFrac, b1, b2, hz]
  · cases e
theorem dec_no45 (u : Nat) (r : List UInt8) : spNeg (Lib.decDigits u ++ r) = false := by
  obtain ⟨b, r', h, h1, _⟩ := dec_cons u
  unfold spNeg
  rw [h]
  simp
  intro e; rw [e] at h1; exact absurd h1 (by decide)
theorem dec_no45' (u : Nat) : spNeg (Lib.decDigits u) = false := by
  have := dec_no45 u []
  rwa [List.append_nil] at this
/-- the text of a number is parsed to it this way too -/
theorem sp_txt (a : Int) (h0 : 0 ≤ a) (h1 : a < 55441) : ¬ spBad (txtN a) ∧ spA (txtN a) = a := by
  obtain ⟨p0, p1, _, _⟩ := sp_bd a
  have fin : ∀ t : List UInt8, ∀ p q : Int, (spParts t).length ≤ 2 → 0 ≤ spP t → spQ t = q → 1 ≤ q → q ≤ 166 → -1000000 ≤ p → p ≤ 1000000 → p % 55441 = a * q % 55441 → spSign t * (spP t % 55441) % 55441 = p % 55441 → ¬ spBad t ∧ spA t = a := by
    intro t p q g1 g2 g3 g4 g5 g6 g7 g8 g9
    subst g3
    refine ⟨?_, spA_of t a p g4 g5 h0 h1 g6 g7 g8 g9⟩
    unfold spBad
    omega
  by_cases hz : sq a = 0
  · rw [txt_no hz]
    have hn := dec_no45' a.toNat
    have hP : spParts (Lib.decDigits a.toNat) = [Lib.decDigits a.toNat] := by
      unfold spParts spBody; rw [if_neg (by rw [hn]; decide), spl_none _ _ (dec_no47 _)]; rfl
    have hS : spSign (Lib.decDigits a.toNat) = 1 := by unfold spSign; rw [if_neg (by rw [hn]; decide)]
    have hp : spP (Lib.decDigits a.toNat) = a := by
      unfold spP; rw [hP]
      show spV (Lib.decDigits a.toNat) = a
      rw [spV_dec _ (by omega)]; omega
    have hq : spQ (Lib.decDigits a.toNat) = 1 := by unfold spQ; rw [hP]; rfl
    refine fin _ a 1 (by rw [hP]; simp) (by rw [hp]; omega) hq (by omega) (by omega) (by omega) (by omega) (by omega) ?_
    rw [hS, hp]; omega
  · obtain ⟨hs, q0, q1⟩ := short_law a hz
    have two : ∀ (n : Bool) (u : Nat), u ≤ 1000000 → (if n = true then -(u : Int) else (u : Int)) = sp a → ¬ spBad ((if n = true then 45 :: Lib.decDigits u else Lib.decDigits u) ++ (if sq a = 1 then [] else 47 :: Lib.decDigits (sq a).toNat)) ∧ spA ((if n = true then 45 :: Lib.decDigits u else Lib.decDigits u) ++ (if sq a = 1 then [] else 47 :: Lib.decDigits (sq a).toNat)) = a := by
      intro n u hu hpu
      generalize ht : (if n = true then 45 :: Lib.decDigits u else Lib.decDigits u) ++ (if sq a = 1 then [] else 47 :: Lib.decDigits (sq a).toNat) = t
      have hneg : spNeg t = n := by
        rw [← ht]
        cases n
        · exact dec_no45 u _
        · rfl
      have hbody : spBody t = Lib.decDigits u ++ (if sq a = 1 then [] else 47 :: Lib.decDigits (sq a).toNat) := by
        unfold spBody
        rw [hneg, ← ht]
        cases n
        · rfl
        · rfl
      have hS : spSign t = if n = true then -1 else 1 := by unfold spSign; rw [hneg]
      have hparts : spParts t = if sq a = 1 then [Lib.decDigits u] else [Lib.decDigits u, Lib.decDigits (sq a).toNat] := by
        unfold spParts
        rw [hbody]
        split
        · rw [List.append_nil, spl_none _ _ (dec_no47 _)]; rfl
        · rw [spl_at _ _ _ (dec_no47 _), spl_none _ _ (dec_no47 _)]; rfl
      have hp : spP t = u := by
        unfold spP; rw [hparts]
        split
        · exact spV_dec _ hu
        · exact spV_dec _ hu
      have hq : spQ t = sq a := by
        unfold spQ; rw [hparts]
        by_cases h1q : sq a = 1
        · simp [h1q]
        · simp only [h1q, if_false]
          show (if 2 = 2 then spV (Lib.decDigits (sq a).toNat) else 1) = sq a
          rw [if_pos rfl, spV_dec _ (by omega)]; omega
      refine fin t (sp a) (sq a) (by rw [hparts]; split <;> simp) (by rw [hp]; omega) hq q0 q1 (by omega) (by omega) hs ?_
      rw [hS, hp, ← hpu]
      cases n
      · simp
      · simp only [if_true]
        omega
    by_cases hn : sp a < 0
    · have := two true (sp a).natAbs (by omega) (by rw [if_pos rfl]; omega)
      rw [if_pos rfl] at this
      unfold txtN
      rwa [if_neg hz, if_pos hn]
    · have := two false (sp a).toNat (by omega) (by rw [if_neg (by decide)]; omega)
      rw [if_neg (by decide)] at this
      unfold txtN
      rwa [if_neg hz, if_neg hn]
theorem pr_bad {t : List UInt8} (h : spBad t) : (0 : Int) = prV t ∧ (6 : Int) = prC t := by
  cases hd : decT t with
  | none => exact pr_none hd
  | some a =>
    refine pr_ne hd fun e => ?_
    obtain ⟨b0, b1⟩ := decT_bd hd
    have := (sp_txt a b0 b1).1
    rw [e] at this
    exact this h
theorem pr_spne {t : List UInt8} (h : ¬ txtN (spA t) = t) : (0 : Int) = prV t ∧ (6 : Int) = prC t := by
  cases hd : decT t with
  | none => exact pr_none hd
  | some a =>
    refine pr_ne hd fun e => ?_
    obtain ⟨b0, b1⟩ := decT_bd hd
    have := (sp_txt a b0 b1).2
    rw [e] at this
    rw [this] at h
    exact h e
theorem pr_speq {t : List UInt8} (h : txtN (spA t) = t) : spA t = prV t ∧ (0 : Int) = prC t := by
  have := decT_txt (spA t) (spA_bd t).1 (spA_bd t).2
  rw [h] at this
  exact pr_eq this h
end Go.Proofs.YtjmkmcabpjmkgaaDoor
