/- The least subring, and whether a set is a subring: of the specification. -/
import Derived.Test.YtpfodikmidgpmaaSbH
namespace Go.Proofs.Ytpfodikmidgpmaa
open Go.RowKit
set_option linter.unusedSimpArgs false
set_option linter.unusedVariables false
theorem spr_less {n : Nat} {f : Nat → Nat → Nat → Int} {s t : Nat} (h : SprTo n f s t) (hne : t ≠ s) : s < t :=
  Nat.lt_of_le_of_ne (sub_le h.1.2.2.1) (Ne.symm hne)
set_option maxRecDepth 100000 in
set_option maxHeartbeats 1000000 in
theorem l05From_f (b off n c : Nat) (B O C : Nat → Nat) (B2 O2 C2 : Nat → Nat → Nat) (f : Nat → Nat → Nat → Int) (s : Nat) (w : World) (h : CubeAt w b off n B O C B2 O2 C2 f) (R : Rng n f) (hs : s < 2 ^ n) :
    Calls Try.prog 56 #[.agg #[.slice (some ⟨b, off, none⟩) n c], .int .i64 s] w fun e w' => ∃ g, e = .returned (.int .i64 (g : Nat)) ∧ IsGen n f s g ∧ Below w.heap.size w w' := by
  have HRg := Lib.hid R
  have h16 := R.h16
  have hp := pow_le16 h16
  obtain ⟨W, hW⟩ : ∃ W, W = w.alloc (.cells #[.slice (some ⟨b, off, none⟩) n c] 28) := ⟨_, rfl⟩
  have HWe := Lib.hid hW
  have HB := Lib.hid (show Below w.heap.size w W by rw [hW]; exact below_alloc w _)
  have HWs := Lib.hid (show W.heap.size = w.heap.size + 1 by rw [hW]; simp)
  have E0 := Lib.hid (show W.cell? ⟨w.heap.size, 0, none⟩ = some (.slice (some ⟨b, off, none⟩) n c) by rw [hW]; exact cell_box _ _ _)
  have e0 := cell_box w (.slice (some ⟨b, off, none⟩) n c) 28
  have HSp := Lib.hid (fun u (x : Nat) (hu : Below w.heap.size w u) (hx : x < 2 ^ n) => l05Spread_f b off n c B O C B2 O2 C2 f x u (h.below hu) R hx)
  clear hW h R
  go_enter Try.func56, Try.ntmps56
  go_wp2_with fail
  rw [← HWe.out] at e0 ⊢
  clear e0
  refine (HSp.out _ s HB.out hs).mono ?_
  rintro e w1 ⟨t0, rfl, ht0, hb1⟩
  have HT0 := Lib.hid ht0
  have HB1 := Lib.hid hb1
  clear ht0 hb1
  go_wp2_with fail
  go_loopw [1, 5] (fun v x wr => ∃ (a t : Nat), v = .int .i64 a ∧ x = .int .i64 t ∧ a < 2 ^ n ∧ SprTo n f a t ∧ subS s a ∧ (∀ T, Sbr n f T → subS s T → subS a T) ∧ Below W.heap.size W wr) (fun v _ _ => 65536 - (intOf v).toNat)
  case atStart => exact ⟨s, t0, rfl, rfl, hs, HT0.out, fun _ h => h, fun _ _ h => h, HB1.out⟩
  case round =>
    obtain ⟨a, t, rfl, rfl, ha, hS, hsub, hmin, hbw⟩ := hrel
    have HS := Lib.hid hS
    have HU := Lib.hid hsub
    have HM := Lib.hid hmin
    have HBw := Lib.hid hbw
    clear hS hsub hmin hbw
    have e0 : wr.cell? ⟨w.heap.size, 0, none⟩ = some (.slice (some ⟨b, off, none⟩) n c) := (HBw.out.cell (p := ⟨w.heap.size, 0, none⟩) (by rw [HWs.out]; show w.heap.size < _; omega)).trans E0.out
    have HBt := Lib.hid (HB.out.trans (HBw.out.mono HB.out.size))
    by_cases e : t = a
    · subst e
      have hd : ((t : Int) != (t : Int)) = false := by simp
      go_wp2_with fail
      go_ret
      exact ⟨t, rfl, ⟨(spr_is HRg.out ha HS.out).1 rfl, HU.out, HM.out⟩, HBt.out⟩
    · have hd : ((t : Int) != (a : Int)) = true := by simp; omega
      have hlt := spr_less HS.out e
      have ht := HS.out.1.1
      go_wp2_with fail
      clear e0
      refine (HSp.out _ t HBt.out ht).mono ?_
      rintro e w3 ⟨t3, rfl, ht3, hb3⟩
      have HT3 := Lib.hid ht3
      have HB3 := Lib.hid (HBw.out.trans (hb3.mono HBw.out.size))
      clear ht3 hb3
      go_wp2_with fail
      exact ⟨⟨t, t3, rfl, rfl, ht, HT3.out, fun k hk => HS.out.1.2.2.1 k (HU.out k hk), fun T hT hsT => spr_sub HRg.out HS.out hT (HM.out T hT hsT), HB3.out⟩, by simp [intOf]; omega⟩
set_option maxRecDepth 100000 in
theorem l05Is_f (b off n c : Nat) (B O C : Nat → Nat) (B2 O2 C2 : Nat → Nat → Nat) (f : Nat → Nat → Nat → Int) (s : Nat) (w : World) (h : CubeAt w b off n B O C B2 O2 C2 f) (R : Rng n f) (hs : s < 2 ^ n) :
    Calls Try.prog 47 #[.agg #[.slice (some ⟨b, off, none⟩) n c], .int .i64 s] w fun e w' => ∃ r, e = .returned (.bool r) ∧ (r = true ↔ Sbr n f s) ∧ Below w.heap.size w w' := by
  have HRg := Lib.hid R
  obtain ⟨W, hW⟩ : ∃ W, W = w.alloc (.cells #[.slice (some ⟨b, off, none⟩) n c] 28) := ⟨_, rfl⟩
  have HWe := Lib.hid hW
  have HB := Lib.hid (show Below w.heap.size w W by rw [hW]; exact below_alloc w _)
  have e0 := cell_box w (.slice (some ⟨b, off, none⟩) n c) 28
  have HSp := Lib.hid (fun u (hu : Below w.heap.size w u) => l05Spread_f b off n c B O C B2 O2 C2 f s u (h.below hu) R hs)
  clear hW h R
  go_enter Try.func47, Try.ntmps47
  go_wp2_with fail
  rw [← HWe.out] at e0 ⊢
  clear e0
  refine (HSp.out _ HB.out).mono ?_
  rintro e w1 ⟨t, rfl, ht, hb1⟩
  have HT := Lib.hid ht
  have HB1 := Lib.hid (HB.out.trans (hb1.mono HB.out.size))
  clear ht hb1
  go_wp2_with fail
  go_ret
  refine ⟨((t : Int) == (s : Int)), rfl, ?_, HB1.out⟩
  rw [← spr_is HRg.out hs HT.out]
  simp
  omega
end Go.Proofs.Ytpfodikmidgpmaa
