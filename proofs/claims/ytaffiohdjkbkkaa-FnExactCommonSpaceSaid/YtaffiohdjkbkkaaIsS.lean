/- Tests of matrices in the specification; reading of matrices in the program. -/
import Derived.Test.YtaffiohdjkbkkaaOwn
import Derived.Test.YtaffiohdjkbkkaaCpy
import Derived.Test.YtaffiohdjkbkkaaTrn
namespace Go.Proofs.Ytaffiohdjkbkkaa
open Go.RowKit
theorem matB_first {n : Nat} {L : Nat → Nat} {f : Nat → Nat → Int} (h0 : 0 < n) (h : L 0 < 1 ∨ 16 < L 0) : matB n L f = false := matB_no (Or.inr (vecB_no h0 (by omega)))
theorem matB_dims {n : Nat} {L : Nat → Nat} {f : Nat → Nat → Int} (h : matB n L f = true) : 0 < n ∧ n ≤ 16 ∧ 0 < L 0 ∧ L 0 ≤ 16 ∧ (∀ i, i < n → L i = L 0) ∧ ∀ i j, i < n → j < L 0 → numB (f i j) = true := by
  obtain ⟨h0, hv⟩ := matB_t h
  obtain ⟨h1, h2⟩ := vecB_t hv
  refine ⟨h0, h1, (h2 0 h0).1, (h2 0 h0).2.1, fun i hi => (h2 i hi).2.2.1, fun i j hi hj => ?_⟩
  obtain ⟨_, _, e, a⟩ := h2 i hi
  exact allB_t a j (by omega)
theorem RdM.rect {w : World} {a : Option Addr} {n : Nat} {L : Nat → Nat} {f : Nat → Nat → Int} (h : RdM w a n L f) (hm : matB n L f = true) : RdM w a n (fun _ => L 0) f :=
  h.congr (fun i hi => (matB_dims hm).2.2.2.2.1 i hi) (fun _ _ _ _ => rfl)
theorem l02Is_f (a : Option Addr) (n c : Nat) (L : Nat → Nat) (f : Nat → Nat → Int) (w : World) (h : RdM w a n L f) (hn : n ≤ 9000000000) (hL : ∀ i, i < n → L i ≤ 9000000000) :
    Calls Try.prog 61 #[.slice a n c] w fun e w' => e = .returned (.bool (matB n L f)) ∧ Drawn w w' := by
  have HL := Lib.hid hL
  clear hL
  by_cases h0 : n < 1
  · have hd : decide ((n : Int) < 1) = true := by simp; omega
    have HF := Lib.hid (matB_no (L := L) (f := f) (Or.inl (show n = 0 by omega)))
    clear h
    go_enter Try.func61, Try.ntmps61
    go_wp2_with fail
    go_ret
    exact ⟨ret_bool HF.out.symm, Drawn.refl _⟩
  · have hd : decide ((n : Int) < 1) = false := by simp; omega
    by_cases h16 : 16 < n
    · have hd2 : decide (16 < (n : Int)) = true := by simp; omega
      have HF := Lib.hid (matB_no (Or.inr (vecB_long (L := L) (f := f) h16)))
      clear h
      go_enter Try.func61, Try.ntmps61
      go_wp2_with fail
      go_ret
      exact ⟨ret_bool HF.out.symm, Drawn.refl _⟩
    · have hd2 : decide (16 < (n : Int)) = false := by simp; omega
      obtain ⟨b, off, A, C, rfl, hb, hc⟩ := h.open (by omega)
      have e0 : w.cell? ⟨b, off, none⟩ = some (.slice (A 0) (L 0) (C 0)) := by simpa using (hc 0 (by omega)).1
      have HC := Lib.hid hc
      clear hc h
      have hl0 := HL.out 0 (by omega)
      obtain ⟨l0, hl0'⟩ : ∃ l0, l0 = L 0 := ⟨_, rfl⟩
      rw [← hl0'] at e0 hl0
      have E2 := Lib.hid hl0'
      clear hl0'
      generalize A 0 = a0 at *
      generalize C 0 = c0 at *
      by_cases t1 : l0 < 1
      · have t1' : decide ((l0 : Int) < 1) = true := by simp; omega
        have HF := Lib.hid (matB_first (L := L) (f := f) (show 0 < n by omega) (by rw [← E2.out]; omega))
        go_enter Try.func61, Try.ntmps61
        go_wp2_with fail
        go_ret
        exact ⟨ret_bool HF.out.symm, Drawn.refl _⟩
      · have t1' : decide ((l0 : Int) < 1) = false := by simp; omega
        by_cases t2 : 16 < l0
        · have t2' : decide (16 < (l0 : Int)) = true := by simp; omega
          have HF := Lib.hid (matB_first (L := L) (f := f) (show 0 < n by omega) (by rw [← E2.out]; omega))
          go_enter Try.func61, Try.ntmps61
          go_wp2_with fail
          go_ret
          exact ⟨ret_bool HF.out.symm, Drawn.refl _⟩
        · have t2' : decide (16 < (l0 : Int)) = false := by simp; omega
          go_enter Try.func61, Try.ntmps61
          go_wp2_with fail
          go_loopw [3] (fun i wr => ∃ k : Nat, k ≤ n ∧ i = .int .i64 k ∧ Drawn w wr ∧ ∀ i, i < k → 1 ≤ L i ∧ L i ≤ 16 ∧ L i = L 0 ∧ allB (L i) (f i) = true) (fun i _ => n - (intOf i).toNat)
          case atStart => exact ⟨0, by omega, rfl, Drawn.refl _, fun j hj => absurd hj (by omega)⟩
          case round =>
            obtain ⟨k, hk, rfl, hdr, hall⟩ := hrel
            have HD := Lib.hid hdr
            have Hall := Lib.hid hall
            clear hall hdr
            by_cases hlt : k < n
            · have e1 : wr.cell? ⟨b, off + k, none⟩ = some (.slice (A k) (L k) (C k)) := (HD.out.cell _).trans (HC.out k hlt).1
              have e3 : wr.cell? ⟨b, off, none⟩ = some (.slice a0 l0 c0) := (HD.out.cell _).trans e0
              have Hr := Lib.hid (((HC.out k hlt).2.below HD.out.below (Nat.le_refl _)))
              have hlk := HL.out k hlt
              obtain ⟨lk, hlk'⟩ : ∃ lk, lk = L k := ⟨_, rfl⟩
              obtain ⟨bk, hbk⟩ : ∃ bk, bk = allB lk (f k) := ⟨_, rfl⟩
              rw [← hlk'] at e1 hlk Hr
              have E1 := Lib.hid hlk'
              have E3 := Lib.hid hbk
              clear hlk' hbk
              generalize A k = ak at *
              generalize C k = ck at *
              by_cases t3 : lk = l0
              · have t3' : ((lk : Int) != (l0 : Int)) = false := by simp; omega
                have T3 := Lib.hid t3
                clear t3
                cases t4 : allB lk (f k)
                · have HF := Lib.hid (matB_no (Or.inr (vecB_no (L := L) (f := f) hlt (by rw [← E1.out, t4]; simp))))
                  go_wp2_with fail
                  go_quiet ((go_at_call 62; exact Calls.quiet_of_same ((l01Numbers_f _ _ _ (f k) _ (Hr.out.below (below_drewN (Below.refl _ _) _) (Nat.le_refl _)) hlk).mono fun e w' h => ⟨h.1, h.2.symm⟩)))
                  go_wp2_with fail
                  go_ret
                  exact ⟨ret_bool HF.out.symm, HD.out.more _⟩
                · have HF := Lib.hid (show ∀ i, i < k + 1 → 1 ≤ L i ∧ L i ≤ 16 ∧ L i = L 0 ∧ allB (L i) (f i) = true from fun i hi => by
                    by_cases e : i = k
                    · subst e; have := T3.out; rw [← E1.out, ← E2.out]; exact ⟨by omega, by omega, T3.out, t4⟩
                    · exact Hall.out i (by omega))
                  go_wp2_with fail
                  go_quiet ((go_at_call 62; exact Calls.quiet_of_same ((l01Numbers_f _ _ _ (f k) _ (Hr.out.below (below_drewN (Below.refl _ _) _) (Nat.le_refl _)) hlk).mono fun e w' h => ⟨h.1, h.2.symm⟩)))
                  go_wp2_with fail
                  exact ⟨⟨k + 1, by omega, by go_num, HD.out.more _, HF.out⟩, by simp [intOf]; omega⟩
              · have t3' : ((lk : Int) != (l0 : Int)) = true := by simp; omega
                have HF := Lib.hid (matB_no (Or.inr (vecB_no (L := L) (f := f) hlt (by rw [← E1.out, ← E2.out]; omega))))
                clear t3
                go_wp2_with fail
                go_quiet (fail)
                go_wp2_with fail
                go_ret
                exact ⟨ret_bool HF.out.symm, HD.out.more _⟩
            · obtain rfl : k = n := by omega
              have HF := Lib.hid (matB_mk (show 0 < k by omega) (vecB_mk (show k ≤ 16 by omega) Hall.out))
              go_wp2_with fail
              go_ret
              exact ⟨ret_bool HF.out.symm, HD.out⟩
theorem readMatrix_no (a : Option Addr) (n c : Nat) (L : Nat → Nat) (f : Nat → Nat → Int) (w : World) (h : RdM w a n L f) (hn : n ≤ 9000000000) (hL : ∀ i, i < n → L i ≤ 9000000000) (hm : matB n L f = false) :
    Calls Try.prog 141 #[.slice a n c] w fun e w' => e = .returned (.tuple #[.slice none 0 0, .int .i64 1]) ∧ w = w' := by
  have H := Lib.hid h
  have HL := Lib.hid hL
  clear h hL
  go_enter Try.func141, Try.ntmps141
  go_wp2_with (go_at_call 113; refine (isMatrix_f _ _ _ L f _ H.out hn HL.out).mono ?_; rintro e w' ⟨rfl, rfl⟩)
  go_ret2
  exact ⟨rfl, rfl⟩
theorem readMatrix_yes (a : Option Addr) (n c : Nat) (L : Nat → Nat) (f : Nat → Nat → Int) (w : World) (h : RdM w a n L f) (hm : matB n L f = true) :
    Calls Try.prog 141 #[.slice a n c] w fun e w' => e = .returned (.tuple #[.slice (some ⟨w.heap.size, 0, none⟩) n n, .int .i64 0]) ∧ MatB w' 80 123 w.heap.size w.heap.size n (fun _ => L 0) (fun _ => L 0) (fun i => w.heap.size + 1 + i) f ∧ Below w.heap.size w w' := by
  obtain ⟨d0, d1, d2, d3, d4, d5⟩ := matB_dims hm
  have H := Lib.hid h
  have H' := Lib.hid (h.rect hm)
  have D4 := Lib.hid d4
  have D5 := Lib.hid d5
  clear h d4 d5
  go_enter Try.func141, Try.ntmps141
  go_wp2_with (first | (go_at_call 113; refine (isMatrix_f _ _ _ L f _ H.out (by omega) (fun i hi => by rw [D4.out i hi]; omega)).mono ?_; rintro e w' ⟨rfl, rfl⟩) | (go_at_call 114; refine (matrixOf_f _ _ _ (fun _ => L 0) f _ H'.out (by omega) (fun i hi => by omega)).mono ?_; rintro e w' ⟨rfl, hM, hB, -⟩))
  go_ret2
  exact ⟨rfl, hM, hB⟩
theorem implIsMat_b (a : Option Addr) (n c : Nat) (L : Nat → Nat) (f : Nat → Nat → Int) (w : World) (h : RdM w a n L f) (hn : n ≤ 1048576) (hL : ∀ i, i < n → L i ≤ 1048576) :
    Calls Try.prog 113 #[.slice a n c] w (BoolRes w (matB n L f)) :=
  (isMatrix_f a n c L f w h (by omega) (fun i hi => by have := hL i hi; omega)).mono fun _ _ h => ⟨h.1, h.2 ▸ Below.refl _ _⟩
end Go.Proofs.Ytaffiohdjkbkkaa
