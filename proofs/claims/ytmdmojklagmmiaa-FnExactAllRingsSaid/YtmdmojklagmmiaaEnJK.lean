/- Merged: EnJ, EnK. -/
import Derived.Test.YtmdmojklagmmiaaEnGI
import Derived.Test.YtmdmojklagmmiaaPac
import Derived.Test.YtmdmojklagmmiaaSrt
import Derived.Shelf.SlSortCmp.WholeK
/- All small rings: rings are compared. -/
namespace Go.Proofs.Ytmdmojklagmmiaa
open Go.RowKit
set_option linter.unusedSimpArgs false
set_option linter.unusedVariables false
/-- the first number that is not 0 -/
def fstZ (z : Nat → Int) : Nat → Int
  | 0 => 0
  | n + 1 => if fstZ z n = 0 then z n else fstZ z n
theorem fstZ_none {z : Nat → Int} {n : Nat} (h : ∀ j, j < n → z j = 0) : fstZ z n = 0 := by
  induction n with
  | zero => rfl
  | succ n ih => simp only [fstZ]; rw [if_pos (ih fun j hj => h j (by omega))]; exact h n (by omega)
theorem fstZ_at {z : Nat → Int} {n i : Nat} (hi : i < n) (h : ∀ j, j < i → z j = 0) (hz : z i ≠ 0) : fstZ z n = z i := by
  induction n with
  | zero => omega
  | succ n ih =>
    simp only [fstZ]
    by_cases e : i < n
    · rw [ih e, if_neg hz]
    · obtain rfl : i = n := by omega
      rw [if_pos (fstZ_none h)]
theorem fstZ_cases (z : Nat → Int) (n : Nat) : (fstZ z n = 0 ∧ ∀ j, j < n → z j = 0) ∨ ∃ i, i < n ∧ fstZ z n = z i ∧ z i ≠ 0 ∧ ∀ j, j < i → z j = 0 := by
  induction n with
  | zero => exact Or.inl ⟨rfl, fun j hj => absurd hj (by omega)⟩
  | succ n ih =>
    rcases ih with ⟨h1, h2⟩ | ⟨i, h1, h2, h3, h4⟩
    · by_cases e : z n = 0
      · refine Or.inl ⟨fstZ_none ?_, ?_⟩
        all_goals
          intro j hj
          by_cases e2 : j = n
          · rw [e2]; exact e
          · exact h2 j (by omega)
      · exact Or.inr ⟨n, by omega, fstZ_at (by omega) h2 e, e, h2⟩
    · exact Or.inr ⟨i, by omega, fstZ_at (by omega) h4 h3, h3, h4⟩
/-- how two tables compare -/
def cmpT (n : Nat) (F G : Nat → Nat → Nat → Int) : Int := fstZ (fun i => fstZ (fun j => fstZ (fun k => cmpZ (F i j k) (G i j k)) n) n) n
theorem cmpZ_zero {x y : Int} : cmpZ x y = 0 ↔ x = y := by unfold cmpZ; split <;> (try split) <;> omega
theorem cmpZ_neg {x y : Int} : cmpZ x y < 0 ↔ x < y := by unfold cmpZ; split <;> (try split) <;> omega
theorem fst_zero {z : Nat → Int} {n : Nat} : fstZ z n = 0 ↔ ∀ j, j < n → z j = 0 := by
  constructor
  · intro h
    rcases fstZ_cases z n with ⟨_, h2⟩ | ⟨i, _, h2, h3, _⟩
    · exact h2
    · exact absurd (h2 ▸ h) h3
  · exact fstZ_none
theorem fst_neg {z : Nat → Int} {n : Nat} : fstZ z n < 0 ↔ ∃ i, i < n ∧ z i < 0 ∧ ∀ j, j < i → z j = 0 := by
  constructor
  · intro h
    rcases fstZ_cases z n with ⟨h1, _⟩ | ⟨i, h1, h2, h3, h4⟩
    · omega
    · exact ⟨i, h1, by omega, h4⟩
  · rintro ⟨i, h1, h2, h3⟩
    rw [fstZ_at h1 h3 (by omega)]; exact h2
theorem cmpT_lt {n : Nat} {F G : Nat → Nat → Nat → Int} : cmpT n F G < 0 ↔ ltT n F G := by
  unfold cmpT
  rw [fst_neg]
  constructor
  · rintro ⟨i, hi, h1, h2⟩
    obtain ⟨j, hj, h3, h4⟩ := fst_neg.1 h1
    obtain ⟨k, hk, h5, h6⟩ := fst_neg.1 h3
    refine ⟨i, j, k, hi, hj, hk, fun a b c ha hb hc hbf => ?_, cmpZ_neg.1 h5⟩
    rcases hbf with h | ⟨rfl, h | ⟨rfl, h⟩⟩
    · exact cmpZ_zero.1 (fst_zero.1 (fst_zero.1 (h2 a h) b hb) c hc)
    · exact cmpZ_zero.1 (fst_zero.1 (h4 b h) c hc)
    · exact cmpZ_zero.1 (h6 c h)
  · rintro ⟨i, j, k, hi, hj, hk, h, hl⟩
    refine ⟨i, hi, fst_neg.2 ⟨j, hj, fst_neg.2 ⟨k, hk, cmpZ_neg.2 hl, fun c hc => ?_⟩, fun b hb => ?_⟩, fun a ha => ?_⟩
    · exact cmpZ_zero.2 (h i j c hi hj (by omega) (Or.inr ⟨rfl, Or.inr ⟨rfl, hc⟩⟩))
    · exact fst_zero.2 fun c hc => cmpZ_zero.2 (h i b c hi (by omega) hc (Or.inr ⟨rfl, Or.inl hb⟩))
    · exact fst_zero.2 fun b hb => fst_zero.2 fun c hc => cmpZ_zero.2 (h a b c (by omega) hb hc (Or.inl ha))
theorem cmpT_zero {n : Nat} {F G : Nat → Nat → Nat → Int} : cmpT n F G = 0 ↔ eqT n F G := by
  unfold cmpT eqT
  rw [fst_zero]
  exact ⟨fun h i j k hi hj hk => cmpZ_zero.1 (fst_zero.1 (fst_zero.1 (h i hi) j hj) k hk), fun h i hi => fst_zero.2 fun j hj => fst_zero.2 fun k hk => cmpZ_zero.2 (h i j k hi hj hk)⟩
set_option maxRecDepth 100000 in
set_option maxHeartbeats 4000000 in
theorem cmpRow_f (b1 o1 c1 b2 o2 c2 n : Nat) (f g : Nat → Int) (w : World) (h1 : ∀ k, k < n → w.cell? ⟨b1, o1 + k, none⟩ = some (.int .i64 (f k))) (h2 : ∀ k, k < n → w.cell? ⟨b2, o2 + k, none⟩ = some (.int .i64 (g k))) (hn : n ≤ 1000) :
    Calls Try.prog 79 #[.slice (some ⟨b1, o1, none⟩) n c1, .slice (some ⟨b2, o2, none⟩) n c2] w fun e w' => e = .returned (.int .i64 (fstZ (fun k => cmpZ (f k) (g k)) n)) ∧ w = w' := by
  have H1 := Lib.hid h1
  have H2 := Lib.hid h2
  clear h1 h2
  have HZ := Lib.hid (fstZ_cases (fun k => cmpZ (f k) (g k)) n)
  have HZ9 := Lib.hid (fun i (hi : i < n) (h : ∀ j, j < i → (fun k => cmpZ (f k) (g k)) j = 0) (hz : (fun k => cmpZ (f k) (g k)) i ≠ 0) => fstZ_at hi h hz)
  have HZ8 := Lib.hid (fun (h : ∀ j, j < n → (fun k => cmpZ (f k) (g k)) j = 0) => fstZ_none h)
  obtain ⟨r, hr⟩ : ∃ r, r = fstZ (fun k => cmpZ (f k) (g k)) n := ⟨_, rfl⟩
  rw [← hr] at HZ HZ9 HZ8 ⊢
  clear hr HZ
  go_enter Try.func79, Try.ntmps79
  go_wp2_with fail
  go_loop [11] (fun u => ∃ i : Nat, i ≤ n ∧ u = .int .i64 i ∧ ∀ j, j < i → (fun k => cmpZ (f k) (g k)) j = 0) (fun u => n - (intOf u).toNat)
  case atStart => exact ⟨0, by omega, rfl, fun j hj => absurd hj (by omega)⟩
  case round =>
    obtain ⟨i, hi, rfl, hz⟩ := hrel
    have HI := Lib.hid hz
    clear hz
    by_cases hin : i < n
    · have e1 := H1.out i hin
      have e2 := H2.out i hin
      have HN := Lib.hid (HZ9.out i hin HI.out)
      have HX := Lib.hid (compare_f (f i) (g i) w)
      obtain ⟨z, hz⟩ : ∃ z, z = (fun k => cmpZ (f k) (g k)) i := ⟨_, rfl⟩
      have hz2 := hz
      simp only at hz2
      rw [← hz2] at HN HX
      have HE := Lib.hid hz
      clear hz hz2
      generalize f i = fi at *
      generalize g i = gi at *
      by_cases h0 : z = 0
      · have hq : (z == 0) = true := by simp [h0]
        have hne : (z != 0) = false := by simp [h0]
        have HE0 := Lib.hid (HE.out.symm.trans h0)
        have H0 := Lib.hid h0
        clear h0
        go_wp2_with fail
        refine HX.out.mono ?_
        rintro e w' ⟨rfl, rfl⟩
        clear HX
        go_wp2_with fail
        refine ⟨⟨i + 1, by omega, by go_num, fun j hj => ?_⟩, by simp [intOf]; omega⟩
        by_cases e : j = i
        · rw [e]; exact HE0.out
        · exact HI.out j (by omega)
      · have hq : (z == 0) = false := by simp [h0]
        have hne : (z != 0) = true := by simp [h0]
        have HR := Lib.hid (HN.out h0)
        clear h0
        go_wp2_with fail
        refine HX.out.mono ?_
        rintro e w' ⟨rfl, rfl⟩
        clear HX
        go_wp2_with fail
        go_ret
        exact ⟨ret_int HR.out.symm, rfl⟩
    · have HR := Lib.hid (HZ8.out (fun j hj => HI.out j (by omega)))
      go_wp2_with fail
      go_ret
      exact ⟨ret_int HR.out.symm, rfl⟩
set_option maxRecDepth 100000 in
set_option maxHeartbeats 4000000 in
theorem cmpTab_f (b off c : Nat) (B O C : Nat → Nat) (B2 O2 C2 : Nat → Nat → Nat) (F : Nat → Nat → Nat → Int) (b3 o3 c3 : Nat) (B4 O4 C4 : Nat → Nat) (B5 O5 C5 : Nat → Nat → Nat) (G : Nat → Nat → Nat → Int) (n : Nat) (w : World) (h : CubeAt w b off n B O C B2 O2 C2 F) (h2 : CubeAt w b3 o3 n B4 O4 C4 B5 O5 C5 G) (hn : n ≤ 1000) (t c4 c5 : Nat) (ht : t < n) :
    Calls Try.prog 78 #[.slice (some ⟨B t, O t, none⟩) n c4, .slice (some ⟨B4 t, O4 t, none⟩) n c5, .func (.func 79) #[] #[]] w fun e w' => e = .returned (.int .i64 (fstZ (fun j => fstZ (fun k => cmpZ (F t j k) (G t j k)) n) n)) ∧ w = w' := by
  have H1 := Lib.hid h
  have H2 := Lib.hid h2
  clear h h2
  have HZ := Lib.hid (fstZ_cases (fun j => fstZ (fun k => cmpZ (F t j k) (G t j k)) n) n)
  have HZ9 := Lib.hid (fun i (hi : i < n) (h : ∀ j, j < i → (fun j => fstZ (fun k => cmpZ (F t j k) (G t j k)) n) j = 0) (hz : (fun j => fstZ (fun k => cmpZ (F t j k) (G t j k)) n) i ≠ 0) => fstZ_at hi h hz)
  have HZ8 := Lib.hid (fun (h : ∀ j, j < n → (fun j => fstZ (fun k => cmpZ (F t j k) (G t j k)) n) j = 0) => fstZ_none h)
  obtain ⟨r, hr⟩ : ∃ r, r = fstZ (fun j => fstZ (fun k => cmpZ (F t j k) (G t j k)) n) n := ⟨_, rfl⟩
  rw [← hr] at HZ HZ9 HZ8 ⊢
  clear hr HZ
  go_enter Try.func78, Try.ntmps78
  go_wp2_with fail
  go_loop [13] (fun u => ∃ i : Nat, i ≤ n ∧ u = .int .i64 i ∧ ∀ j, j < i → (fun j => fstZ (fun k => cmpZ (F t j k) (G t j k)) n) j = 0) (fun u => n - (intOf u).toNat)
  case atStart => exact ⟨0, by omega, rfl, fun j hj => absurd hj (by omega)⟩
  case round =>
    obtain ⟨i, hi, rfl, hz⟩ := hrel
    have HI := Lib.hid hz
    clear hz
    by_cases hin : i < n
    · have e1 := (H1.out.col t i ht hin).1
      have e2 := (H2.out.col t i ht hin).1
      have HN := Lib.hid (HZ9.out i hin HI.out)
      have HX := Lib.hid (cmpRow_f (B2 t i) (O2 t i) (C2 t i) (B5 t i) (O5 t i) (C5 t i) n (F t i) (G t i) w (fun k hk => H1.out.num t i k ht hin hk) (fun k hk => H2.out.num t i k ht hin hk) hn)
      obtain ⟨z, hz⟩ : ∃ z, z = (fun j => fstZ (fun k => cmpZ (F t j k) (G t j k)) n) i := ⟨_, rfl⟩
      have hz2 := hz
      simp only at hz2
      rw [← hz2] at HN HX
      have HE := Lib.hid hz
      clear hz hz2
      generalize B2 t i = p1 at *
      generalize O2 t i = p2 at *
      generalize C2 t i = p3 at *
      generalize B5 t i = p4 at *
      generalize O5 t i = p5 at *
      generalize C5 t i = p6 at *
      by_cases h0 : z = 0
      · have hq : (z == 0) = true := by simp [h0]
        have hne : (z != 0) = false := by simp [h0]
        have HE0 := Lib.hid (HE.out.symm.trans h0)
        have H0 := Lib.hid h0
        clear h0
        go_wp2_with fail
        refine HX.out.mono ?_
        rintro e w' ⟨rfl, rfl⟩
        clear HX
        go_wp2_with fail
        refine ⟨⟨i + 1, by omega, by go_num, fun j hj => ?_⟩, by simp [intOf]; omega⟩
        by_cases e : j = i
        · rw [e]; exact HE0.out
        · exact HI.out j (by omega)
      · have hq : (z == 0) = false := by simp [h0]
        have hne : (z != 0) = true := by simp [h0]
        have HR := Lib.hid (HN.out h0)
        clear h0
        go_wp2_with fail
        refine HX.out.mono ?_
        rintro e w' ⟨rfl, rfl⟩
        clear HX
        go_wp2_with fail
        go_ret
        exact ⟨ret_int HR.out.symm, rfl⟩
    · have HR := Lib.hid (HZ8.out (fun j hj => HI.out j (by omega)))
      go_wp2_with fail
      go_ret
      exact ⟨ret_int HR.out.symm, rfl⟩
theorem compare1_f (b off c : Nat) (B O C : Nat → Nat) (B2 O2 C2 : Nat → Nat → Nat) (F : Nat → Nat → Nat → Int) (b3 o3 c3 : Nat) (B4 O4 C4 : Nat → Nat) (B5 O5 C5 : Nat → Nat → Nat) (G : Nat → Nat → Nat → Int) (n : Nat) (w : World) (h : CubeAt w b off n B O C B2 O2 C2 F) (h2 : CubeAt w b3 o3 n B4 O4 C4 B5 O5 C5 G) (hn : n ≤ 1000) (t c4 c5 : Nat) (ht : t < n) :
    Calls Try.prog 77 #[.slice (some ⟨B t, O t, none⟩) n c4, .slice (some ⟨B4 t, O4 t, none⟩) n c5] w fun e w' => e = .returned (.int .i64 (fstZ (fun j => fstZ (fun k => cmpZ (F t j k) (G t j k)) n) n)) ∧ w = w' := by
  have HX := Lib.hid (cmpTab_f b off c B O C B2 O2 C2 F b3 o3 c3 B4 O4 C4 B5 O5 C5 G n w h h2 hn t c4 c5 ht)
  generalize fstZ (fun j => fstZ (fun k => cmpZ (F t j k) (G t j k)) n) n = z at *
  clear h h2
  go_enter Try.func77, Try.ntmps77
  go_wp2_with fail
  refine HX.out.mono ?_
  rintro e w' ⟨rfl, rfl⟩
  clear HX
  go_wp2_with fail
  go_ret
  exact ⟨rfl, rfl⟩
set_option maxRecDepth 100000 in
set_option maxHeartbeats 4000000 in
theorem cmpCub_f (b off c : Nat) (B O C : Nat → Nat) (B2 O2 C2 : Nat → Nat → Nat) (F : Nat → Nat → Nat → Int) (b3 o3 c3 : Nat) (B4 O4 C4 : Nat → Nat) (B5 O5 C5 : Nat → Nat → Nat) (G : Nat → Nat → Nat → Int) (n : Nat) (w : World) (h : CubeAt w b off n B O C B2 O2 C2 F) (h2 : CubeAt w b3 o3 n B4 O4 C4 B5 O5 C5 G) (hn : n ≤ 1000) :
    Calls Try.prog 76 #[.slice (some ⟨b, off, none⟩) n c, .slice (some ⟨b3, o3, none⟩) n c3, .func (.func 77) #[] #[]] w fun e w' => e = .returned (.int .i64 (fstZ (fun i => fstZ (fun j => fstZ (fun k => cmpZ (F i j k) (G i j k)) n) n) n)) ∧ w = w' := by
  have H1 := Lib.hid h
  have H2 := Lib.hid h2
  clear h h2
  have HZ := Lib.hid (fstZ_cases (fun i => fstZ (fun j => fstZ (fun k => cmpZ (F i j k) (G i j k)) n) n) n)
  have HZ9 := Lib.hid (fun i (hi : i < n) (h : ∀ j, j < i → (fun i => fstZ (fun j => fstZ (fun k => cmpZ (F i j k) (G i j k)) n) n) j = 0) (hz : (fun i => fstZ (fun j => fstZ (fun k => cmpZ (F i j k) (G i j k)) n) n) i ≠ 0) => fstZ_at hi h hz)
  have HZ8 := Lib.hid (fun (h : ∀ j, j < n → (fun i => fstZ (fun j => fstZ (fun k => cmpZ (F i j k) (G i j k)) n) n) j = 0) => fstZ_none h)
  obtain ⟨r, hr⟩ : ∃ r, r = fstZ (fun i => fstZ (fun j => fstZ (fun k => cmpZ (F i j k) (G i j k)) n) n) n := ⟨_, rfl⟩
  rw [← hr] at HZ HZ9 HZ8 ⊢
  clear hr HZ
  go_enter Try.func76, Try.ntmps76
  go_wp2_with fail
  go_loop [13] (fun u => ∃ i : Nat, i ≤ n ∧ u = .int .i64 i ∧ ∀ j, j < i → (fun i => fstZ (fun j => fstZ (fun k => cmpZ (F i j k) (G i j k)) n) n) j = 0) (fun u => n - (intOf u).toNat)
  case atStart => exact ⟨0, by omega, rfl, fun j hj => absurd hj (by omega)⟩
  case round =>
    obtain ⟨i, hi, rfl, hz⟩ := hrel
    have HI := Lib.hid hz
    clear hz
    by_cases hin : i < n
    · have e1 := (H1.out.row i hin).1
      have e2 := (H2.out.row i hin).1
      have HN := Lib.hid (HZ9.out i hin HI.out)
      have HX := Lib.hid (compare1_f b off c B O C B2 O2 C2 F b3 o3 c3 B4 O4 C4 B5 O5 C5 G n w H1.out H2.out hn i (C i) (C4 i) hin)
      obtain ⟨z, hz⟩ : ∃ z, z = (fun i => fstZ (fun j => fstZ (fun k => cmpZ (F i j k) (G i j k)) n) n) i := ⟨_, rfl⟩
      have hz2 := hz
      simp only at hz2
      rw [← hz2] at HN HX
      have HE := Lib.hid hz
      clear hz hz2
      generalize B i = p1 at *
      generalize O i = p2 at *
      generalize C i = p3 at *
      generalize B4 i = p4 at *
      generalize O4 i = p5 at *
      generalize C4 i = p6 at *
      by_cases h0 : z = 0
      · have hq : (z == 0) = true := by simp [h0]
        have hne : (z != 0) = false := by simp [h0]
        have HE0 := Lib.hid (HE.out.symm.trans h0)
        have H0 := Lib.hid h0
        clear h0
        go_wp2_with fail
        refine HX.out.mono ?_
        rintro e w' ⟨rfl, rfl⟩
        clear HX
        go_wp2_with fail
        refine ⟨⟨i + 1, by omega, by go_num, fun j hj => ?_⟩, by simp [intOf]; omega⟩
        by_cases e : j = i
        · rw [e]; exact HE0.out
        · exact HI.out j (by omega)
      · have hq : (z == 0) = false := by simp [h0]
        have hne : (z != 0) = true := by simp [h0]
        have HR := Lib.hid (HN.out h0)
        clear h0
        go_wp2_with fail
        refine HX.out.mono ?_
        rintro e w' ⟨rfl, rfl⟩
        clear HX
        go_wp2_with fail
        go_ret
        exact ⟨ret_int HR.out.symm, rfl⟩
    · have HR := Lib.hid (HZ8.out (fun j hj => HI.out j (by omega)))
      go_wp2_with fail
      go_ret
      exact ⟨ret_int HR.out.symm, rfl⟩
theorem compare_r (b off c : Nat) (B O C : Nat → Nat) (B2 O2 C2 : Nat → Nat → Nat) (F : Nat → Nat → Nat → Int) (b3 o3 c3 : Nat) (B4 O4 C4 : Nat → Nat) (B5 O5 C5 : Nat → Nat → Nat) (G : Nat → Nat → Nat → Int) (n : Nat) (w : World) (h : CubeAt w b off n B O C B2 O2 C2 F) (h2 : CubeAt w b3 o3 n B4 O4 C4 B5 O5 C5 G) (hn : n ≤ 1000) :
    Calls Try.prog 47 #[.agg #[.slice (some ⟨b, off, none⟩) n c], .agg #[.slice (some ⟨b3, o3, none⟩) n c3]] w fun e w' => e = .returned (.int .i64 (cmpT n F G)) ∧ w' = (w.alloc (.cells #[.slice (some ⟨b, off, none⟩) n c] 29)).alloc (.cells #[.slice (some ⟨b3, o3, none⟩) n c3] 29) := by
  have HX := Lib.hid (fun u (hu : Below w.heap.size w u) => cmpCub_f b off c B O C B2 O2 C2 F b3 o3 c3 B4 O4 C4 B5 O5 C5 G n u (h.below hu) (h2.below hu) hn)
  have HT := Lib.hid (show cmpT n F G = fstZ (fun i => fstZ (fun j => fstZ (fun k => cmpZ (F i j k) (G i j k)) n) n) n from rfl)
  rw [← HT.out] at HX
  have HW := Lib.hid (show Below w.heap.size w ((w.alloc (.cells #[.slice (some ⟨b, off, none⟩) n c] 29)).alloc (.cells #[.slice (some ⟨b3, o3, none⟩) n c3] 29)) from (below_alloc _ _).alloc (by simp) _)
  generalize cmpT n F G = z at *
  clear h h2 HT
  go_enter Try.func47, Try.ntmps47
  go_wp2_with fail
  refine (HX.out _ HW.out).mono ?_
  rintro e w' ⟨rfl, rfl⟩
  clear HX
  go_wp2_with fail
  go_ret
  exact ⟨rfl, rfl⟩
end Go.Proofs.Ytmdmojklagmmiaa
/- All small rings: the list is sorted. -/
namespace Go.Proofs.Ytmdmojklagmmiaa
open Go.RowKit Go.Shelf Go.Sort
set_option linter.unusedSimpArgs false
set_option linter.unusedVariables false
theorem take_put (cur F : Array Value) (h : F.size ≤ cur.size) : (putCells id 0 F cur).toList.take F.size = F.toList := by
  apply List.ext_getElem?
  intro j
  by_cases hj : j < F.size
  · rw [List.getElem?_take_of_lt hj, Array.getElem?_toList]
    simp [putCells, hj, show j < cur.size by omega]
  · rw [List.getElem?_take_eq_none (by omega), List.getElem?_eq_none (by simp; omega)]
theorem flat_list {α : Type} [Inhabited α] (e : α → Value) (d : Array α) : (flatK (fun x => [e x]) 1 d).toList = (List.range d.size).map fun j => e d[j]! := by
  unfold flatK
  rw [Array.toList_map, Array.toList_range, Nat.mul_one]
  refine List.map_congr_left fun j hj => ?_
  rw [Nat.div_one, Nat.mod_one]
  rfl
/-- the world behind a sort -/
theorem sort_trn {α : Type} [Inhabited α] (e : α → Value) (w : World) (g n : Nat) (d : Array α) (os : Array Obj) : Trn (fun q => q = g) w (sortWorldK (fun x => [e x]) 1 w g 0 n d os) := by
  refine ⟨rfl, rfl, rfl, by simp [sortWorldK, putRowK], fun k hk hne => ?_⟩
  unfold sortWorldK
  rw [heap_grow_old _ _ (by simpa [putRowK] using hk)]
  have : g ≠ k := fun e => hne e.symm
  simp [putRowK, putRow, mapBlock, Sort.ahead, Array.getElem?_modify, this]
theorem sort_heap {α : Type} [Inhabited α] (e : α → Value) (w : World) (g n : Nat) (d : Array α) (os : Array Obj) {cur : Array Value} {t : TypeId} {fr : Nat × Nat} (hb : w.heap[g]? = some (.cells cur t fr)) : (sortWorldK (fun x => [e x]) 1 w g 0 n d os).heap[g]? = some (.cells (putCells id 0 (flatK (fun x => [e x]) 1 d) cur) t fr) := by
  have hg : g < w.heap.size := (Array.getElem?_eq_some_iff.1 hb).1
  unfold sortWorldK
  rw [heap_grow_old _ _ (by simpa [putRowK] using hg)]
  simp [putRowK, putRow, mapBlock, Sort.ahead, Array.getElem?_modify, hb, onCells]
theorem ltT_ntrans {n : Nat} {F G H : Nat → Nat → Nat → Int} (h1 : ¬ ltT n F G) (h2 : ¬ ltT n G H) : ¬ ltT n F H := fun h => by
  by_cases e : ltT n G F
  · exact h2 (ltT_trans e h)
  · exact h2 (ltT_cong h (ltT_tri h1 e) (fun _ _ _ _ _ _ => rfl))
theorem ltOf_cmp {α : Type} (n : Nat) (f : α → Nat → Nat → Nat → Int) : SWO (ltOf fun x y => cmpT n (f x) (f y)) := by
  have e : ∀ x y, ltOf (fun x y => cmpT n (f x) (f y)) x y = true ↔ ltT n (f x) (f y) := fun x y => by unfold ltOf; rw [decide_eq_true_iff]; exact cmpT_lt
  have e' : ∀ x y, ltOf (fun x y => cmpT n (f x) (f y)) x y = false ↔ ¬ ltT n (f x) (f y) := fun x y => by rw [← e x y]; simp
  exact ⟨fun x => (e' x x).2 (eqT_not fun _ _ _ _ _ _ => rfl), fun x y z h1 h2 => (e x z).2 (ltT_trans ((e x y).1 h1) ((e y z).1 h2)), fun x y z h1 h2 => (e' x z).2 (ltT_ntrans ((e' x y).1 h1) ((e' y z).1 h2))⟩
set_option maxHeartbeats 2000000 in
theorem sortOK (n : Nat) (hn : n ≤ 1000) : SortOK n := by
  intro base lim g k u X A Lo Hi hl hX
  obtain ⟨cur, hbs, hgu, h1, h2, h3, h4⟩ : ∃ cur, base ≤ g ∧ u.heap[g]? = some (.cells cur 29 (0, 0)) ∧ X.length ≤ k ∧ k ≤ maxLen ∧ cur.size = k * 1 ∧ cur.toList.take (X.length * 1) = rgL n A X.length := by
    rcases hl.own.2 with ⟨h, _⟩ | ⟨g', cap, cur, h, rest⟩
    · cases h
    · cases h; exact ⟨cur, rest⟩
  have hg : g < u.heap.size := (Array.getElem?_eq_some_iff.1 hgu).1
  by_cases h0 : X.length = 0
  · have hcmp : CmpLays Try.prog 47 #[] (fun _ : Unit => [Value.slice (some ⟨g, 0, none⟩) 0 0]) 1 (fun _ _ => cmpT 0 zF zF) g 0 (#[] : Array Unit).size u := by
      intro m os dk hdk x y
      have hT := sort_trn (fun _ : Unit => Value.slice (some ⟨g, 0, none⟩) 0 0) u g m dk os
      have hat : CubeAt (sortWorldK (fun _ : Unit => [Value.slice (some ⟨g, 0, none⟩) 0 0]) 1 u g 0 m dk os) g 0 0 (fun _ => 0) (fun _ => 0) (fun _ => 0) (fun _ _ => 0) (fun _ _ => 0) (fun _ _ => 0) zF := ⟨Nat.lt_of_lt_of_le hg hT.size, fun i hi => absurd hi (by omega), fun i j hi => absurd hi (by omega), fun i j k hi => absurd hi (by omega)⟩
      refine (compare_r g 0 0 _ _ _ _ _ _ zF g 0 0 _ _ _ _ _ _ zF 0 _ hat hat (by omega)).mono ?_
      rintro e w' ⟨rfl, rfl⟩
      exact ⟨rfl, 0, _, by rw [alloc_eq_grow, alloc_eq_grow, grow_grow]; rfl⟩
    have hsort := AnyQ.slices_SortFunc Try.laysSort 1 Try.isAgg29 Try.sizeOf29 (fun _ : Unit => [Value.slice (some ⟨g, 0, none⟩) 0 0]) (fun _ => rfl) (fun x v hv => by rw [List.mem_singleton] at hv; rw [hv]; rfl) (fun _ _ => cmpT 0 zF zF) (ltOf_cmp 0 fun _ : Unit => zF) 47 #[] g 0 k #[] u (enters_of Try.func47 (by kernel_rfl) rfl) hcmp (fun j hj => absurd hj (by simp)) hg (by simp)
    change Calls Try.prog 74 _ _ _ at hsort
    have hz : (#[] : Array Unit).size = X.length := h0.symm
    rw [hz] at hsort
    refine hsort.mono ?_
    rintro e w' ⟨rfl, d', m, os, hp, hs, rfl⟩
    have hT := sort_trn (fun _ : Unit => Value.slice (some ⟨g, 0, none⟩) 0 0) u g m d' os
    have hX0 : X = [] := List.eq_nil_of_length_eq_zero h0
    subst hX0
    refine ⟨rfl, [], A, Lo, Hi, List.Perm.refl _, fun i j _ hj => absurd hj (by simp), ⟨?_, fun i hi => absurd hi (by simp), fun i j _ hi => absurd hi (by simp), fun q _ i hi => absurd hi (by simp)⟩, hT⟩
    exact ⟨rfl, .inr ⟨g, k, _, rfl, hbs, sort_heap _ u g m d' os hgu, h1, h2, by simp [putCells, h3], rfl⟩⟩
  · have hin : Inhabited (Fin X.length) := ⟨⟨0, by omega⟩⟩
    obtain ⟨d, hd⟩ : ∃ d : Array (Fin X.length), d = Array.ofFn id := ⟨_, rfl⟩
    have hds : d.size = X.length := by rw [hd]; simp
    have hdg : ∀ j (hj : j < X.length), d[j]! = ⟨j, hj⟩ := fun j hj => by rw [hd]; simp [hj]
    have hrow := RowB_of_own hl.own
    have hcell : ∀ j, j < X.length → u.cell? ⟨g, j, none⟩ = some (.slice (some ⟨(A j).1, 0, none⟩) n (A j).2) := fun j hj => by
      rw [RowB.cell hrow hj]; simp [rgL, List.getD, hj]
    have hH : HoldsK (fun x : Fin X.length => [Value.slice (some ⟨(A x.1).1, 0, none⟩) n (A x.1).2]) 1 u g 0 d := by
      intro j hj
      have hj' : j < X.length := by simpa [hds] using hj
      rw [Nat.zero_add]
      refine ⟨?_, RowB.frozen hrow j⟩
      rw [hcell j hj', get_flatK _ _ _ _ (by simpa using hj), Nat.div_one, hdg j hj', Nat.mod_one]
      rfl
    have hcmp : CmpLays Try.prog 47 #[] (fun x : Fin X.length => [Value.slice (some ⟨(A x.1).1, 0, none⟩) n (A x.1).2]) 1 (fun x y => cmpT n (X.getD x.1 zF) (X.getD y.1 zF)) g 0 d.size u := by
      intro m os dk hdk x y
      have hT := sort_trn (fun x : Fin X.length => Value.slice (some ⟨(A x.1).1, 0, none⟩) n (A x.1).2) u g m dk os
      obtain ⟨C, B, CC, G, hcx⟩ := (hl.cub x.1 x.2).2.2.trn hT (fun q hq hh => by rw [hq] at hh; exact hl.off g rfl x.1 x.2 hh)
      obtain ⟨C', B', CC', G', hcy⟩ := (hl.cub y.1 y.2).2.2.trn hT (fun q hq hh => by rw [hq] at hh; exact hl.off g rfl y.1 y.2 hh)
      refine (compare_r (A x.1).1 0 (A x.1).2 B (fun _ => 0) C G (fun _ _ => 0) CC (X.getD x.1 zF) (A y.1).1 0 (A y.1).2 B' (fun _ => 0) C' G' (fun _ _ => 0) CC' (X.getD y.1 zF) n _ (cubAt hcx) (cubAt hcy) hn).mono ?_
      rintro e w' ⟨rfl, rfl⟩
      exact ⟨rfl, 0, _, by rw [alloc_eq_grow, alloc_eq_grow, grow_grow]; rfl⟩
    have hsort := AnyQ.slices_SortFunc Try.laysSort 1 Try.isAgg29 Try.sizeOf29 (fun x : Fin X.length => [Value.slice (some ⟨(A x.1).1, 0, none⟩) n (A x.1).2]) (fun _ => rfl) (fun x v hv => by rw [List.mem_singleton] at hv; rw [hv]; rfl) (fun x y => cmpT n (X.getD x.1 zF) (X.getD y.1 zF)) (ltOf_cmp n fun x : Fin X.length => X.getD x.1 zF) 47 #[] g 0 k d u (enters_of Try.func47 (by kernel_rfl) rfl) hcmp hH hg (by rw [hds]; omega)
    change Calls Try.prog 74 _ _ _ at hsort
    rw [hds] at hsort
    refine hsort.mono ?_
    rintro e w' ⟨rfl, d', m, os, hp, hs, rfl⟩
    have hsz : d'.size = X.length := by rw [hp.1, hds]
    have hT := sort_trn (fun x : Fin X.length => Value.slice (some ⟨(A x.1).1, 0, none⟩) n (A x.1).2) u g m d' os
    have hperm : d'.toList.Perm d.toList := by
      have h9 := hp.2.2
      rwa [Array.extract_eq_self_of_le (by omega), Array.extract_eq_self_of_le (by omega)] at h9
    have hdl : d.toList = List.finRange X.length := by rw [hd, Array.toList_ofFn]; rfl
    have hXl : X = (List.finRange X.length).map fun x => X.getD x.1 zF := by
      apply List.ext_getElem
      · simp
      · intro i hi1 hi2
        simp [List.getD, hi1]
    have hget : ∀ j, j < X.length → (d'.toList.map fun x => X.getD x.1 zF).getD j zF = X.getD (d'[j]!).1 zF := fun j hj => by
      simp [List.getD, hsz, hj]
    refine ⟨rfl, d'.toList.map fun x => X.getD x.1 zF, fun j => A (d'[j]!).1, fun j => Lo (d'[j]!).1, fun j => Hi (d'[j]!).1, ?_, ?_, ?_, hT⟩
    · conv => rhs; rw [hXl]
      rw [← hdl]
      exact hperm.map _
    · intro i j hij hj
      have hj' : j < X.length := by simpa [hsz] using hj
      rw [hget j hj', hget i (by omega)]
      have h9 := hs i j (Nat.zero_le _) hij hj'
      unfold ltOf at h9
      rw [decide_eq_false_iff_not] at h9
      exact fun h => h9 (cmpT_lt.2 h)
    · have hlen : (d'.toList.map fun x => X.getD x.1 zF).length = X.length := by simp [hsz]
      refine ⟨?_, fun i hi => ?_, fun i j hij hi hj => ?_, fun q hq i hi => ?_⟩
      · rw [hlen]
        refine ⟨by simp [rgL], .inr ⟨g, k, _, rfl, hbs, sort_heap _ u g m d' os hgu, h1, h2, by simp [putCells, h3], ?_⟩⟩
        have h9 := take_put cur (flatK (fun x : Fin X.length => [Value.slice (some ⟨(A x.1).1, 0, none⟩) n (A x.1).2]) 1 d') (by simp [hsz]; omega)
        rw [flat_list, size_flatK, hsz] at h9
        exact h9
      · rw [hlen] at hi
        rw [hget i hi]
        obtain ⟨c1, c2, c3⟩ := hl.cub (d'[i]!).1 (d'[i]!).2
        exact ⟨c1, Nat.le_trans c2 hT.size, c3.trn hT (fun q hq hh => by rw [hq] at hh; exact hl.off g rfl _ (d'[i]!).2 hh)⟩
      · rw [hlen] at hi hj
        refine hl.dis _ _ (fun e => hij ?_) (d'[i]!).2 (d'[j]!).2
        have hnd : d'.toList.Nodup := hperm.nodup_iff.2 (by
          rw [hdl, List.nodup_iff_pairwise_ne, List.pairwise_iff_getElem]
          intro a b ha hb hab
          simp only [List.getElem_finRange, ne_eq, Fin.cast_mk, Fin.mk.injEq]
          omega)
        have e2 : d'[i]! = d'[j]! := Fin.ext e
        rw [getElem!_pos d' i (by omega), getElem!_pos d' j (by omega)] at e2
        have hpw := List.pairwise_iff_getElem.1 (List.nodup_iff_pairwise_ne.1 hnd)
        by_cases c1 : i < j
        · exact absurd (by rw [Array.getElem_toList, Array.getElem_toList]; exact e2) (hpw i j _ _ c1)
        · by_cases c2 : j < i
          · exact absurd (by rw [Array.getElem_toList, Array.getElem_toList]; exact e2.symm) (hpw j i _ _ c2)
          · omega
      · exact hl.off q hq _ (d'[i]!).2
end Go.Proofs.Ytmdmojklagmmiaa
