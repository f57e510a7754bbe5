/- Square matrices: reading, codes, traces. -/
import Derived.Test.YtaffiohdjkbkkaaMul
namespace Go.Proofs.Ytaffiohdjkbkkaa
open Go.RowKit
/-- the code where a square matrix is asked -/
def cSq (n : Nat) (L : Nat → Nat) (f : Nat → Nat → Int) : Int := if matB n L f = true then (if n = L 0 then 0 else 2) else 1
def sqB (n : Nat) (L : Nat → Nat) (f : Nat → Nat → Int) : Bool := matB n L f && decide (n = L 0)
theorem sqB_t {n : Nat} {L : Nat → Nat} {f : Nat → Nat → Int} (h : sqB n L f = true) : matB n L f = true ∧ n = L 0 ∧ 0 < n ∧ n ≤ 16 ∧ ∀ i j, i < n → j < n → numB (f i j) = true := by
  have h' : matB n L f = true ∧ n = L 0 := by simpa [sqB] using h
  obtain ⟨d0, d1, d2, d3, d4, d5⟩ := matB_dims h'.1
  exact ⟨h'.1, h'.2, d0, d1, fun i j hi hj => d5 i j hi (by rw [← h'.2]; exact hj)⟩
theorem cSq_yes {n : Nat} {L : Nat → Nat} {f : Nat → Nat → Int} (h : sqB n L f = true) : cSq n L f = 0 := by
  have h' : matB n L f = true ∧ n = L 0 := by simpa [sqB] using h
  unfold cSq; rw [if_pos h'.1, if_pos h'.2]
theorem cSq_no {n : Nat} {L : Nat → Nat} {f : Nat → Nat → Int} (h : sqB n L f = false) : cSq n L f = 1 ∧ matB n L f = false ∨ cSq n L f = 2 ∧ matB n L f = true ∧ n ≠ L 0 := by
  cases hm : matB n L f
  · left; exact ⟨by unfold cSq; rw [hm]; rfl, rfl⟩
  · right
    have hne : n ≠ L 0 := by intro e; simp [sqB, hm, ← e] at h
    exact ⟨by unfold cSq; rw [if_pos hm, if_neg hne], rfl, hne⟩
theorem readSquare_no (a : Option Addr) (n c : Nat) (L : Nat → Nat) (f : Nat → Nat → Int) (w : World) (h : RdM w a n L f) (hn : n ≤ 1048576) (hL : ∀ i, i < n → L i ≤ 1048576) (hs : sqB n L f = false) :
    Calls Try.prog 81 #[.slice a n c] w fun e w' => e = .returned (.tuple #[.slice none 0 0, .int .i64 (cSq n L f)]) ∧ Below w.heap.size w w' := by
  rcases cSq_no hs with ⟨hc, hm⟩ | ⟨hc, hm, hne⟩
  · rw [hc]
    have HE := Lib.hid (readMatrix_no a n c L f w h (by omega) (fun i hi => by have := hL i hi; omega) hm)
    clear h hL hs hc hm
    go_enter Try.func81, Try.ntmps81
    go_wp2_with (go_at_call 141; refine HE.out.mono ?_; rintro e w' ⟨rfl, rfl⟩)
    go_ret2
    exact ⟨rfl, Below.refl _ _⟩
  · rw [hc]
    obtain ⟨d0, d1, d2, d3, d4, d5⟩ := matB_dims hm
    have HE := Lib.hid (readMatrix_yes a n c L f w h hm)
    have hq : ((n : Int) != (L 0 : Int)) = true := by simp; omega
    clear h hL hs hc hm d4 d5 hne
    generalize L 0 = l0 at *
    go_enter Try.func81, Try.ntmps81
    go_wp2_with fail
    refine HE.out.mono ?_
    rintro e w' ⟨rfl, hM, hB⟩
    have HM := Lib.hid hM.rd
    have HB := Lib.hid hB
    clear hM hB
    go_wp2_with (go_at_call 142; refine (columns_f _ n l0 _ _ _ HM.out d0 (by omega)).mono ?_; rintro e w' ⟨rfl, rfl⟩)
    go_ret2
    exact ⟨rfl, HB.out⟩
theorem readSquare_yes (a : Option Addr) (n c : Nat) (L : Nat → Nat) (f : Nat → Nat → Int) (w : World) (h : RdM w a n L f) (hs : sqB n L f = true) :
    Calls Try.prog 81 #[.slice a n c] w fun e w' => e = .returned (.tuple #[.slice (some ⟨w.heap.size, 0, none⟩) n n, .int .i64 0]) ∧ MatB w' 80 123 w.heap.size w.heap.size n (fun _ => n) (fun _ => n) (fun i => w.heap.size + 1 + i) (fun i j => vK (kM f i j)) ∧ Below w.heap.size w w' := by
  obtain ⟨hm, hnl, d0, d1, d5⟩ := sqB_t hs
  have HE := readMatrix_yes a n c L f w h hm
  rw [← hnl] at HE
  have HE := Lib.hid HE
  have hq : ((n : Int) != (n : Int)) = false := by simp
  have D5 := Lib.hid d5
  clear h hs hm hnl d5
  go_enter Try.func81, Try.ntmps81
  go_wp2_with fail
  refine HE.out.mono ?_
  rintro e w' ⟨rfl, hM, hB⟩
  have HM := Lib.hid hM
  have HB := Lib.hid hB
  clear hM hB
  go_wp2_with (go_at_call 142; refine (columns_f _ n n _ _ _ HM.out.rd d0 (by omega)).mono ?_; rintro e w' ⟨rfl, rfl⟩)
  go_ret2
  refine ⟨rfl, ⟨HM.out.hlo, HM.out.outer, fun i hi => ?_, HM.out.apart⟩, HB.out⟩
  obtain ⟨a1, a2, a3, a4⟩ := HM.out.row i hi
  exact ⟨a1, a2, a3, a4.congr fun j hj => by have := numB_t (D5.out i j hi hj); exact (vK_kOf _ this.1 this.2).symm⟩
theorem l02Square_f (a : Option Addr) (n c : Nat) (L : Nat → Nat) (f : Nat → Nat → Int) (w : World) (h : RdM w a n L f) (hn : n ≤ 1048576) (hL : ∀ i, i < n → L i ≤ 1048576) :
    Calls Try.prog 79 #[.slice a n c] w fun e w' => e = .returned (.int .i64 (cSq n L f)) ∧ Drawn w w' := by
  have CA := Lib.hid (l02Is_f a n c L f w h (by omega) (fun i hi => by have := hL i hi; omega))
  cases hm : matB n L f
  · have HF := Lib.hid (show (1 : Int) = cSq n L f by unfold cSq; rw [hm]; rfl)
    rw [hm] at CA
    clear h hL hm
    go_enter Try.func79, Try.ntmps79
    go_wp2_with fail
    refine CA.out.mono ?_
    rintro e w' ⟨rfl, hd⟩
    go_wp2_with fail
    go_ret
    exact ⟨ret_int HF.out, hd⟩
  · obtain ⟨d0, _⟩ := matB_dims hm
    obtain ⟨b1, off, A, C, rfl, hb1, hc⟩ := h.open d0
    have E0 := Lib.hid (show w.cell? ⟨b1, off, none⟩ = some (.slice (A 0) (L 0) (C 0)) by simpa using (hc 0 d0).1)
    have HF := Lib.hid (show cSq n L f = if n = L 0 then 0 else 2 by unfold cSq; rw [if_pos hm])
    rw [hm] at CA
    clear h hL hm hc
    generalize A 0 = a0 at E0
    generalize C 0 = c0 at E0
    obtain ⟨l0, hl0⟩ : ∃ l, l = L 0 := ⟨_, rfl⟩
    rw [← hl0] at E0 HF
    clear hl0
    by_cases hnl : n = l0
    · have HG := Lib.hid (show 0 = cSq n L f by rw [HF.out, if_pos hnl])
      have hq : ((n : Int) != (l0 : Int)) = false := by simp; omega
      clear hnl
      go_enter Try.func79, Try.ntmps79
      go_wp2_with fail
      refine CA.out.mono ?_
      rintro e w' ⟨rfl, hd⟩
      have e1 : w'.cell? ⟨b1, off, none⟩ = some (.slice a0 l0 c0) := (hd.cell _).trans E0.out
      have HD := Lib.hid hd
      clear hd
      go_wp2_with fail
      go_ret
      exact ⟨ret_int HG.out, HD.out⟩
    · have HG := Lib.hid (show 2 = cSq n L f by rw [HF.out, if_neg hnl])
      have hq : ((n : Int) != (l0 : Int)) = true := by simp; omega
      clear hnl
      go_enter Try.func79, Try.ntmps79
      go_wp2_with fail
      refine CA.out.mono ?_
      rintro e w' ⟨rfl, hd⟩
      have e1 : w'.cell? ⟨b1, off, none⟩ = some (.slice a0 l0 c0) := (hd.cell _).trans E0.out
      have HD := Lib.hid hd
      clear hd
      go_wp2_with fail
      go_ret
      exact ⟨ret_int HG.out, HD.out⟩
theorem plus_k (x y : K) (w : World) : Calls Try.prog 166 #[.int .i64 (vK x), .int .i64 (vK y)] w fun e w' => e = .returned (.int .i64 (vK (x + y))) ∧ w = w' := by
  have HF := Lib.hid (vK_add x y)
  obtain ⟨x0, x1⟩ := vK_bd x
  obtain ⟨y0, y1⟩ := vK_bd y
  generalize vK x = a at *
  generalize vK y = b at *
  go_enter Try.func166, Try.ntmps166
  go_wp2
  go_ret
  exact ⟨ret_int HF.out, rfl⟩
theorem trace_f (a : Option Addr) (n c : Nat) (F : Mat) (w : World) (h : RdM w a n (fun _ => n) (fun i j => vK (F i j))) (hn : n ≤ 1000) :
    Calls Try.prog 145 #[.slice a n c] w fun e w' => e = .returned (.int .i64 (vK (sumK n (fun i => F i i)))) ∧ w = w' := by
  have H := Lib.hid h
  clear h
  go_enter Try.func145, Try.ntmps145
  go_wp2_with fail
  go_loop [3, 8] (fun s i => ∃ k : Nat, k ≤ n ∧ i = .int .i64 k ∧ s = .int .i64 (vK (sumK k (fun i => F i i)))) (fun _ i => n - (intOf i).toNat)
  case atStart => exact ⟨0, by omega, rfl, rfl⟩
  case round =>
    obtain ⟨k, hk, rfl, rfl⟩ := hrel
    by_cases hlt : k < n
    · obtain ⟨b, off, A, C, rfl, hb, hc⟩ := H.out.open (by omega)
      have e1 := (hc k hlt).1
      obtain ⟨b2, o2, ha, hb2, hc2⟩ := (hc k hlt).2.open (by omega)
      have e2 := hc2 k hlt
      rw [ha] at e1
      have HS := Lib.hid (show sumK (k + 1) (fun i => F i i) = sumK k (fun i => F i i) + F k k from rfl)
      clear hc hc2 ha
      generalize C k = ck at e1
      go_wp2_with fail
      refine (plus_k (sumK k (fun i => F i i)) (F k k) _).mono ?_
      rintro e w' ⟨rfl, rfl⟩
      go_wp2_with fail
      go_round
      case rel => exact ⟨k + 1, by omega, by go_num, by rw [HS.out]⟩
      case measure => simp [intOf]; omega
    · obtain rfl : k = n := by omega
      go_wp2_with fail
      go_ret
      exact ⟨rfl, rfl⟩
/-- an integer, or 0 with an error -/
def vIf (b : Bool) (v : Int) : Int := if b then v else 0
end Go.Proofs.Ytaffiohdjkbkkaa
