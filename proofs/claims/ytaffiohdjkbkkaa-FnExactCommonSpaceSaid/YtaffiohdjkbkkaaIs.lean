/- What is a matrix, what a list of vectors: both programs' tests. -/
import Derived.Test.YtaffiohdjkbkkaaLawB
import Derived.Test.YtaffiohdjkbkkaaNum
namespace Go.Proofs.Ytaffiohdjkbkkaa
open Go.RowKit
/-- are all n integers numbers? -/
def allB (n : Nat) (f : Nat → Int) : Bool := decide (∀ j, j < n → numB (f j) = true)
theorem allB_t {n : Nat} {f : Nat → Int} (h : allB n f = true) : ∀ j, j < n → numB (f j) = true := by simpa [allB] using h
theorem allB_mk {n : Nat} {f : Nat → Int} (h : ∀ j, j < n → numB (f j) = true) : allB n f = true := by simpa [allB] using h
theorem allB_no {n : Nat} {f : Nat → Int} {k : Nat} (hk : k < n) (h : numB (f k) = false) : allB n f = false := by
  cases e : allB n f
  · rfl
  · have := allB_t e k hk; rw [h] at this; cases this
/-- the first index of what is no number, or -1 -/
def badFrom (f : Nat → Int) (n : Nat) (k : Nat) : Int :=
  if h : k < n then (if numB (f k) = true then badFrom f n (k + 1) else (k : Int)) else -1
termination_by n - k
theorem badFrom_all {f : Nat → Int} {n : Nat} (h : ∀ j, j < n → numB (f j) = true) : ∀ d k, n - k = d → badFrom f n k = -1 := by
  intro d
  induction d with
  | zero => intro k hk; unfold badFrom; rw [dif_neg (by omega)]
  | succ d ih => intro k hk; unfold badFrom; rw [dif_pos (by omega), if_pos (h k (by omega))]; exact ih (k + 1) (by omega)
theorem badFrom_some {f : Nat → Int} {n j : Nat} (hj : j < n) (h : numB (f j) = false) : ∀ d k, n - k = d → k ≤ j → 0 ≤ badFrom f n k := by
  intro d
  induction d with
  | zero => intro k hk hkj; omega
  | succ d ih =>
    intro k hk hkj
    unfold badFrom
    rw [dif_pos (by omega)]
    by_cases e : numB (f k) = true
    · rw [if_pos e]
      have : k ≠ j := fun e' => by rw [e', h] at e; cases e
      exact ih (k + 1) (by omega) (by omega)
    · rw [if_neg e]; omega
theorem badFrom_neg {f : Nat → Int} {n : Nat} (h : allB n f = true) : badFrom f n 0 = -1 := badFrom_all (allB_t h) _ 0 rfl
theorem badFrom_pos {f : Nat → Int} {n : Nat} (h : allB n f = false) : 0 ≤ badFrom f n 0 := by
  have : ∃ j, j < n ∧ numB (f j) = false := by
    apply Classical.byContradiction
    intro hn
    have := allB_mk (n := n) (f := f) (fun j hj => by
      cases e : numB (f j)
      · exact absurd ⟨j, hj, e⟩ hn
      · rfl)
    rw [h] at this; cases this
  obtain ⟨j, hj, e⟩ := this
  exact badFrom_some hj e _ 0 rfl (Nat.zero_le _)
/-- a list of vectors -/
def vecB (n : Nat) (L : Nat → Nat) (f : Nat → Nat → Int) : Bool := decide (n ≤ 16 ∧ ∀ i, i < n → 1 ≤ L i ∧ L i ≤ 16 ∧ L i = L 0 ∧ allB (L i) (f i) = true)
theorem vecB_t {n : Nat} {L : Nat → Nat} {f : Nat → Nat → Int} (h : vecB n L f = true) : n ≤ 16 ∧ ∀ i, i < n → 1 ≤ L i ∧ L i ≤ 16 ∧ L i = L 0 ∧ allB (L i) (f i) = true := by simpa [vecB] using h
theorem vecB_mk {n : Nat} {L : Nat → Nat} {f : Nat → Nat → Int} (h1 : n ≤ 16) (h : ∀ i, i < n → 1 ≤ L i ∧ L i ≤ 16 ∧ L i = L 0 ∧ allB (L i) (f i) = true) : vecB n L f = true := by
  unfold vecB; exact decide_eq_true ⟨h1, h⟩
theorem vecB_no {n : Nat} {L : Nat → Nat} {f : Nat → Nat → Int} {k : Nat} (hk : k < n) (h : ¬ (1 ≤ L k ∧ L k ≤ 16 ∧ L k = L 0 ∧ allB (L k) (f k) = true)) : vecB n L f = false := by
  unfold vecB; exact decide_eq_false (fun ⟨_, h'⟩ => h (h' k hk))
theorem vecB_long {n : Nat} {L : Nat → Nat} {f : Nat → Nat → Int} (h : 16 < n) : vecB n L f = false := by
  unfold vecB; exact decide_eq_false (fun ⟨h', _⟩ => by omega)
/-- a matrix -/
def matB (n : Nat) (L : Nat → Nat) (f : Nat → Nat → Int) : Bool := decide (0 < n) && vecB n L f
theorem matB_t {n : Nat} {L : Nat → Nat} {f : Nat → Nat → Int} (h : matB n L f = true) : 0 < n ∧ vecB n L f = true := by simpa [matB] using h
theorem matB_mk {n : Nat} {L : Nat → Nat} {f : Nat → Nat → Int} (h : 0 < n) (h' : vecB n L f = true) : matB n L f = true := by simp [matB, h, h']
theorem matB_no {n : Nat} {L : Nat → Nat} {f : Nat → Nat → Int} (h : n = 0 ∨ vecB n L f = false) : matB n L f = false := by
  rcases h with rfl | h <;> simp [matB, *]
theorem notNum_any (a : Int) (w : World) : Calls Try.prog 116 #[.int .i64 a] w fun e w' => e = .returned (.bool (!numB a)) ∧ w = w' := by
  go_enter Try.func116, Try.ntmps116
  go_wp2_with (go_at_call 117; refine (isNumber_any _ _).mono ?_; rintro e w' ⟨rfl, rfl⟩)
  go_ret
  exact ⟨rfl, rfl⟩
theorem indexBad_f (a : Option Addr) (n c : Nat) (f : Nat → Int) (w : World) (h : RdR w a n f) (hn : n ≤ 9000000000) :
    Calls Try.prog 164 #[.slice a n c, .func (.func 116) #[] #[]] w fun e w' => e = .returned (.int .i64 (badFrom f n 0)) ∧ w = w' := by
  have H := Lib.hid h
  clear h
  go_enter Try.func164, Try.ntmps164
  go_wp2_with fail
  go_loop [8] (fun i => ∃ k : Nat, k ≤ n ∧ i = .int .i64 k ∧ badFrom f n 0 = badFrom f n k) (fun i => n - (intOf i).toNat)
  case atStart => exact ⟨0, by omega, rfl, rfl⟩
  case round =>
    obtain ⟨k, hk, rfl, hbad⟩ := hrel
    have HB := Lib.hid hbad
    clear hbad
    by_cases hlt : k < n
    · obtain ⟨b, off, rfl, hb, hc⟩ := H.out.resolve_left (by omega)
      have hcs := hc k hlt
      have Hc := Lib.hid hc
      clear hc
      obtain ⟨x, hx⟩ : ∃ x, x = f k := ⟨_, rfl⟩
      rw [← hx] at hcs
      have Hx := Lib.hid hx
      clear hx
      cases hnx : numB x
      · have HF := Lib.hid (show (k : Int) = badFrom f n 0 by
          rw [HB.out]; unfold badFrom; rw [dif_pos hlt, if_neg (by rw [← Hx.out, hnx]; decide)])
        go_wp2_with (go_at_call 116; refine (notNum_any _ _).mono ?_; rintro e w' ⟨rfl, rfl⟩)
        go_ret
        exact ⟨ret_int HF.out, rfl⟩
      · have HF := Lib.hid (show badFrom f n 0 = badFrom f n (k + 1) by
          rw [HB.out]; conv => lhs; unfold badFrom
          rw [dif_pos hlt, if_pos (by rw [← Hx.out, hnx])])
        go_wp2_with (go_at_call 116; refine (notNum_any _ _).mono ?_; rintro e w' ⟨rfl, rfl⟩)
        go_round
        case rel => exact ⟨k + 1, by omega, by go_num, HF.out⟩
        case measure => simp [intOf]; omega
    · obtain rfl : k = n := by omega
      have HF := Lib.hid (show (-1 : Int) = badFrom f k 0 by
          rw [HB.out]; unfold badFrom; rw [dif_neg (by omega)])
      go_wp2_with fail
      go_ret
      exact ⟨ret_int HF.out, rfl⟩
theorem areNumbers_f (a : Option Addr) (n c : Nat) (f : Nat → Int) (w : World) (h : RdR w a n f) (hn : n ≤ 9000000000) :
    Calls Try.prog 65 #[.slice a n c] w fun e w' => e = .returned (.bool (allB n f)) ∧ w = w' := by
  have H := Lib.hid h
  clear h
  have hc : Calls Try.prog 115 #[.slice a n c, .func (.func 116) #[] #[]] w fun e w' => e = .returned (.bool (!allB n f)) ∧ w = w' := by
    cases hb : allB n f
    · have hp := badFrom_pos hb
      have HB := Lib.hid hb
      clear hb
      go_enter Try.func115, Try.ntmps115
      go_wp2_with (go_at_call 164; refine (indexBad_f _ _ _ f _ H.out hn).mono ?_; rintro e w' ⟨rfl, rfl⟩)
      go_ret
      exact ⟨rfl, rfl⟩
    · have hp := badFrom_neg hb
      have HB := Lib.hid hb
      clear hb
      go_enter Try.func115, Try.ntmps115
      go_wp2_with (go_at_call 164; refine (indexBad_f _ _ _ f _ H.out hn).mono ?_; rintro e w' ⟨rfl, rfl⟩)
      go_ret
      exact ⟨rfl, rfl⟩
  go_enter Try.func65, Try.ntmps65
  go_wp2_with (go_at_call 115; refine hc.mono ?_; rintro e w' ⟨rfl, rfl⟩)
  go_ret
  exact ⟨by simp, rfl⟩
theorem l01Numbers_f (a : Option Addr) (n c : Nat) (f : Nat → Int) (w : World) (h : RdR w a n f) (hn : n ≤ 9000000000) :
    Calls Try.prog 62 #[.slice a n c] w fun e w' => e = .returned (.bool (allB n f)) ∧ w = w' := by
  have H := Lib.hid h
  clear h
  go_enter Try.func62, Try.ntmps62
  go_wp2_with fail
  go_loop [3] (fun i => ∃ k : Nat, k ≤ n ∧ i = .int .i64 k ∧ ∀ j, j < k → numB (f j) = true) (fun i => n - (intOf i).toNat)
  case atStart => exact ⟨0, by omega, rfl, fun j hj => absurd hj (by omega)⟩
  case round =>
    obtain ⟨k, hk, rfl, hall⟩ := hrel
    have Hall := Lib.hid hall
    clear hall
    by_cases hlt : k < n
    · obtain ⟨b, off, rfl, hb, hc⟩ := H.out.resolve_left (by omega)
      have e1 := hc k hlt
      have Hc := Lib.hid hc
      clear hc
      obtain ⟨x, hx⟩ : ∃ x, x = f k := ⟨_, rfl⟩
      rw [← hx] at e1
      have Hx := Lib.hid hx
      clear hx
      cases hb : numB x
      · have HF := Lib.hid (allB_no (f := f) hlt (by rw [← Hx.out]; exact hb))
        go_wp2_with (go_at_call 106; refine (l01Number_any _ _).mono ?_; rintro e w' ⟨rfl, rfl⟩)
        go_ret
        exact ⟨ret_bool HF.out.symm, rfl⟩
      · have Hn := Lib.hid (show ∀ j, j < k + 1 → numB (f j) = true from fun j hj => by
          by_cases e : j = k
          · rw [e, ← Hx.out]; exact hb
          · exact Hall.out j (by omega))
        go_wp2_with (go_at_call 106; refine (l01Number_any _ _).mono ?_; rintro e w' ⟨rfl, rfl⟩)
        go_round
        case rel => exact ⟨k + 1, by omega, by go_num, Hn.out⟩
        case measure => simp [intOf]; omega
    · obtain rfl : k = n := by omega
      have HF := Lib.hid (allB_mk Hall.out)
      go_wp2_with fail
      go_ret
      exact ⟨ret_bool HF.out.symm, rfl⟩
theorem isVectors_f (a : Option Addr) (n c : Nat) (L : Nat → Nat) (f : Nat → Nat → Int) (w : World) (h : RdM w a n L f) (hn : n ≤ 9000000000) (hL : ∀ i, i < n → L i ≤ 9000000000) :
    Calls Try.prog 163 #[.slice a n c] w fun e w' => e = .returned (.bool (vecB n L f)) ∧ w = w' := by
  have H := Lib.hid h
  have HL := Lib.hid hL
  clear h hL
  by_cases h16 : n ≤ 16
  · have hd16 : decide (16 < (n : Int)) = false := by simp; omega
    go_enter Try.func163, Try.ntmps163
    go_wp2_with fail
    go_loop [10] (fun i => ∃ k : Nat, k ≤ n ∧ i = .int .i64 k ∧ ∀ i, i < k → 1 ≤ L i ∧ L i ≤ 16 ∧ L i = L 0 ∧ allB (L i) (f i) = true) (fun i => n - (intOf i).toNat)
    case atStart => exact ⟨0, by omega, rfl, fun j hj => absurd hj (by omega)⟩
    case round =>
      obtain ⟨k, hk, rfl, hall⟩ := hrel
      have Hall := Lib.hid hall
      clear hall
      by_cases hlt : k < n
      · obtain ⟨b, off, A, C, rfl, hb, hc⟩ := H.out.resolve_left (by omega)
        have e1 := (hc k hlt).1
        have e0 : w.cell? ⟨b, off, none⟩ = some (.slice (A 0) (L 0) (C 0)) := by simpa using (hc 0 (by omega)).1
        have Hr := Lib.hid (hc k hlt).2
        have hlk := HL.out k hlt
        have Hc := Lib.hid hc
        clear hc
        obtain ⟨lk, hlk'⟩ : ∃ lk, lk = L k := ⟨_, rfl⟩
        obtain ⟨l0, hl0⟩ : ∃ l0, l0 = L 0 := ⟨_, rfl⟩
        obtain ⟨bk, hbk⟩ : ∃ bk, bk = allB lk (f k) := ⟨_, rfl⟩
        rw [← hlk'] at e1 hlk Hr
        rw [← hl0] at e0
        have E1 := Lib.hid hlk'
        have E2 := Lib.hid hl0
        have E3 := Lib.hid hbk
        clear hlk' hl0 hbk
        generalize A k = ak at *
        generalize C k = ck at *
        generalize A 0 = a0 at *
        generalize C 0 = c0 at *
        by_cases t1 : lk < 1
        · have t1' : decide ((lk : Int) < 1) = true := by simp; omega
          have HF := Lib.hid (vecB_no (L := L) (f := f) hlt (by rw [← E1.out]; omega))
          go_wp2_with fail
          go_ret
          exact ⟨ret_bool HF.out.symm, rfl⟩
        · have t1' : decide ((lk : Int) < 1) = false := by simp; omega
          by_cases t2 : 16 < lk
          · have t2' : decide (16 < (lk : Int)) = true := by simp; omega
            have HF := Lib.hid (vecB_no (L := L) (f := f) hlt (by rw [← E1.out]; omega))
            go_wp2_with fail
            go_ret
            exact ⟨ret_bool HF.out.symm, rfl⟩
          · have t2' : decide (16 < (lk : Int)) = false := by simp; omega
            by_cases t3 : lk = l0
            · have t3' : ((lk : Int) != (l0 : Int)) = false := by simp; omega
              have T3 := Lib.hid t3
              clear t3
              cases t4 : allB lk (f k)
              · have HF := Lib.hid (vecB_no (L := L) (f := f) hlt (by rw [← E1.out, t4]; simp))
                go_wp2_with (go_at_call 65; refine (areNumbers_f _ _ _ (f k) _ Hr.out hlk).mono ?_; rintro e w' ⟨rfl, rfl⟩)
                go_ret
                exact ⟨ret_bool HF.out.symm, rfl⟩
              · have HF := Lib.hid (show ∀ i, i < k + 1 → 1 ≤ L i ∧ L i ≤ 16 ∧ L i = L 0 ∧ allB (L i) (f i) = true from fun i hi => by
                  by_cases e : i = k
                  · subst e; rw [← E1.out, ← E2.out]; exact ⟨by omega, by omega, T3.out, t4⟩
                  · exact Hall.out i (by omega))
                go_wp2_with (go_at_call 65; refine (areNumbers_f _ _ _ (f k) _ Hr.out hlk).mono ?_; rintro e w' ⟨rfl, rfl⟩)
                go_round
                case rel => exact ⟨k + 1, by omega, by go_num, HF.out⟩
                case measure => simp [intOf]; omega
            · have t3' : ((lk : Int) != (l0 : Int)) = true := by simp; omega
              have HF := Lib.hid (vecB_no (L := L) (f := f) hlt (by rw [← E1.out, ← E2.out]; omega))
              clear t3
              go_wp2_with fail
              go_ret
              exact ⟨ret_bool HF.out.symm, rfl⟩
      · obtain rfl : k = n := by omega
        have HF := Lib.hid (vecB_mk h16 Hall.out)
        go_wp2_with fail
        go_ret
        exact ⟨ret_bool HF.out.symm, rfl⟩
  · have hd16 : decide (16 < (n : Int)) = true := by simp; omega
    have HF := Lib.hid (vecB_long (L := L) (f := f) (show 16 < n by omega))
    go_enter Try.func163, Try.ntmps163
    go_wp2_with fail
    go_ret
    exact ⟨ret_bool HF.out.symm, rfl⟩
theorem isMatrix_f (a : Option Addr) (n c : Nat) (L : Nat → Nat) (f : Nat → Nat → Int) (w : World) (h : RdM w a n L f) (hn : n ≤ 9000000000) (hL : ∀ i, i < n → L i ≤ 9000000000) :
    Calls Try.prog 113 #[.slice a n c] w fun e w' => e = .returned (.bool (matB n L f)) ∧ w = w' := by
  have H := Lib.hid h
  have HL := Lib.hid hL
  clear h hL
  by_cases h0 : 0 < n
  · have hd : decide (0 < (n : Int)) = true := by simp; omega
    have HF := Lib.hid (show vecB n L f = matB n L f by simp [matB, h0])
    go_enter Try.func113, Try.ntmps113
    go_wp2_with (go_at_call 163; refine (isVectors_f _ _ _ L f _ H.out hn HL.out).mono ?_; rintro e w' ⟨rfl, rfl⟩)
    go_ret
    exact ⟨ret_bool HF.out, rfl⟩
  · have hd : decide (0 < (n : Int)) = false := by simp; omega
    have HF := Lib.hid (show false = matB n L f by rw [matB_no (Or.inl (by omega))])
    go_enter Try.func113, Try.ntmps113
    go_wp2_with fail
    go_ret
    exact ⟨ret_bool HF.out, rfl⟩
end Go.Proofs.Ytaffiohdjkbkkaa
