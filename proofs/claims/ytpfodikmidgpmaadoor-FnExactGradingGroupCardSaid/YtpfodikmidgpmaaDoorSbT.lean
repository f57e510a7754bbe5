/- ComponentsOf and CosetsOf of both. -/
import Derived.Test.YtpfodikmidgpmaaDoorSbS
import Derived.Test.YtpfodikmidgpmaaDoorSbP
namespace Go.Proofs.YtpfodikmidgpmaaDoor
open Go.RowKit
set_option linter.unusedSimpArgs false
set_option linter.unusedVariables false
set_option maxRecDepth 100000 in
theorem components_f (b off n c : Nat) (B O C : Nat → Nat) (f : Nat → Nat → Nat → Int) (w : World) (h : OccP w b off n B O C (occ n f)) (h0 : 0 < n) (h16 : n ≤ 16) :
    Calls Tryd.prog 36 #[.slice (some ⟨b, off, none⟩) n c] w fun e w' => ∃ g, e = .returned (.slice (some ⟨g, 0, none⟩) n n) ∧ w.heap.size ≤ g ∧ RowI w' 2 g n (csN n f (adV n f)) ∧ Below w.heap.size w w' := by
  have HO := Lib.hid h
  have HAl := Lib.hid (fun u => all_f (some ⟨b, off, none⟩) n c u h16)
  have HAd := Lib.hid (adjoint_f b off n c B O C f (allS n) w h h0 h16 (allS_lt n))
  clear h
  go_enter Tryd.func36, Tryd.ntmps36
  go_wp2_with first | (go_at_call 51; refine (HAl.out _).mono ?_; rintro e w5 ⟨rfl, rfl⟩) | (go_at_call 50; refine HAd.out.mono ?_; rintro e w6 ⟨s, rfl, hg, hb6⟩; have HG := Lib.hid hg; have HB6 := Lib.hid hb6; clear hg hb6) | (go_at_call 49; refine (cosets_f b off n c B O C f s w6 (HO.out.below HB6.out (Nat.le_refl _)) h0 h16 HG.out.1.1).mono ?_; rintro e w7 ⟨g, rfl, hgl, hrow, hb7⟩; have HR := Lib.hid hrow; have HB7 := Lib.hid (HB6.out.trans (hb7.mono HB6.out.size)); have HGl := Lib.hid (Nat.le_trans HB6.out.size hgl); clear hgl hrow hb7)
  have HE := Lib.hid (gen_eq HG.out)
  go_ret
  refine ⟨g, rfl, HGl.out, ?_, HB7.out⟩
  have := HR.out
  rw [HE.out] at this
  exact this
theorem implCmp_f_rows (n : Nat) (M : Nat → Nat) (L : Nat → Nat → Nat) (f : Nat → Nat → Nat → Int) : nRg (ringB n M L f) n ≤ 64 := nRg_le
theorem implCos_f_rows (n : Nat) (M : Nat → Nat) (L : Nat → Nat → Nat) (f : Nat → Nat → Nat → Int) (k : Int) : nRg (ringB n M L f && (setB n k && sbrB n f k.toNat)) n ≤ 64 := by
  have h1 := nRg_le (n := n) (M := M) (L := L) (f := f)
  unfold nRg at *
  cases h2 : ringB n M L f
  · simp
  · rw [h2] at h1
    simp only [if_true, Bool.true_and] at *
    split <;> omega
end Go.Proofs.YtpfodikmidgpmaaDoor
