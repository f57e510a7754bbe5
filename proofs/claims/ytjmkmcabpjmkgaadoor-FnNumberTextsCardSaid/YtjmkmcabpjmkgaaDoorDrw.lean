/- Drawn numbers. -/
import Derived.Test.YtjmkmcabpjmkgaaDoorSrc
import Derived.Test.YtjmkmcabpjmkgaaDoorNumE
namespace Go.Proofs.YtjmkmcabpjmkgaaDoor
open Go.RowKit
/-- what a function of a source comes to: a number with a property -/
def RetPost (P : Int → Prop) (B : Nat) (w : World) (e : Ending) (w' : World) : Prop := ∃ r : Int, P r ∧ e = .returned (.int .i64 r) ∧ Src w' B ∧ Only B w w'
def AnInt (r : Int) : Prop := -9223372036854775808 ≤ r ∧ r ≤ 9223372036854775807
def ANum (r : Int) : Prop := 0 ≤ r ∧ r < 55441
theorem getD_at' {xs : List Int} {i : Nat} (h : i < xs.length) : xs.getD i 0 = xs[i] := by simp [List.getD, h]
theorem lit_cell (w : World) (T : Nat) (xs : List Int) (cs : Array Value) (h : cs = (xs.map (Value.int .i64)).toArray) (i : Nat) (hi : i < xs.length) : (w.alloc (.cells cs T)).cell? ⟨w.heap.size, 0 + i, none⟩ = some (.int .i64 (xs.getD i 0)) := by
  subst h
  simp [go_sem, List.getD, hi]
theorem Only.alloc {B : Nat} {a w : World} (h : Only B a w) (o : Obj) : Only B a (w.alloc o) := h.trans (Only.of_below ((Below.refl w.heap.size w).alloc (Nat.le_refl _) o))
theorem Src.alloc {w : World} {B : Nat} (h : Src w B) (o : Obj) : Src (w.alloc o) B := h.below ((Below.refl w.heap.size w).alloc (Nat.le_refl _) o)
theorem l01Pick_any (B b off n c : Nat) (xs : List Int) (w : World) (hS : Src w B) (hl : xs.length = n) (hn : 1 ≤ n) (hn2 : n ≤ 4096) (hb : b ≠ B) (hlt : b < w.heap.size)
    (hc : ∀ i, i < n → w.cell? ⟨b, off + i, none⟩ = some (.int .i64 (xs.getD i 0))) :
    Calls Tryd.prog 38 #[.pointer (some ⟨B, 0, none⟩), .slice (some ⟨b, off, none⟩) n c] w fun e w' => RetPost (fun r => r ∈ xs) B w e w' := by
  have HC := Lib.hid hc
  have Hl := Lib.hid hl
  clear hc hl
  go_enter Tryd.func38, Tryd.ntmps38
  go_wp2_with fail
  refine (l01Next_any B _ _ hS (by omega)).mono ?_
  rintro e w1 ⟨r, r0, r1, rfl, hS1, hO1⟩
  have r2 : r < n := by omega
  have hcell : w1.cell? ⟨b, off + r.toNat, none⟩ = some (.int .i64 (xs.getD r.toNat 0)) := by rw [hO1.cell (p := ⟨b, off + r.toNat, none⟩) hlt hb]; exact HC.out _ (by omega)
  have Hm := Lib.hid (show xs.getD r.toNat 0 ∈ xs from by
    rw [getD_at' (by rw [Hl.out]; omega)]; exact List.getElem_mem _)
  generalize xs.getD r.toNat 0 = v at *
  have HS1 := Lib.hid hS1
  have HO1 := Lib.hid hO1
  clear hS1 hO1 r1
  go_wp2_with fail
  go_ret
  exact ⟨v, Hm.out, rfl, HS1.out, HO1.out⟩
theorem l01Draw_any (B : Nat) (w : World) (hS : Src w B) : Calls Tryd.prog 53 #[.pointer (some ⟨B, 0, none⟩)] w fun e w' => RetPost ANum B w e w' := by
  go_enter Tryd.func53, Tryd.ntmps53
  go_wp2_with fail
  refine (l01Next_any B _ _ hS (by omega)).mono ?_
  rintro e w1 ⟨r, r0, r1, rfl, hS1, hO1⟩
  have HO1 := Lib.hid hO1
  clear hO1 hS
  by_cases e0 : r = 0
  · have h0 : (r == 0) = true := by simp [e0]
    clear e0 r0 r1
    go_wp2_with fail
    refine (l01Next_any B _ _ hS1 (by omega)).mono ?_
    rintro e w2 ⟨x, x0, x1, rfl, hS2, hO2⟩
    have HO2 := Lib.hid hO2
    clear hO2
    go_wp2_with fail
    go_ret
    exact ⟨x, ⟨x0, by omega⟩, rfl, hS2, HO1.out.trans HO2.out⟩
  · have h0 : (r == 0) = false := by simp [e0]
    by_cases e1 : r = 1
    · have h1 : (r == 1) = true := by simp [e1]
      clear e1 e0 r0 r1
      go_wp2_with fail
      refine (l01Pick_any B w1.heap.size 0 11 _ [1, 2, 3, 4, 5, 7, 8, 11, 16, 24, 55440] _ (hS1.alloc _) rfl (by omega) (by omega) (Nat.ne_of_gt hS1.lt) (by simp) (fun i hi => lit_cell w1 _ _ _ rfl i hi)).mono ?_
      rintro e w2 ⟨x, hx, rfl, hS2, hO2⟩
      have x1 : 1 ≤ x := by simp at hx; omega
      have HO2 := Lib.hid (((Only.refl B w1).alloc _).trans hO2)
      clear hO2 hx
      obtain ⟨p0, p1⟩ := pwI_bd 38 (55440 / x)
      go_wp2_with (go_at_call 42; refine (l01Unity_any _ _ (by omega)).mono ?_; rintro e w' ⟨rfl, hbU⟩)
      go_ret
      exact ⟨pwI 38 (55440 / x), ⟨p0, p1⟩, rfl, hS2.below hbU, (HO1.out.trans HO2.out).trans (Only.of_below hbU)⟩
    · have h1 : (r == 1) = false := by simp [e1]
      by_cases e2 : r = 2
      · have h2 : (r == 2) = true := by simp [e2]
        clear e2 e1 e0 r0 r1
        go_wp2_with fail
        refine (l01Next_any B _ _ hS1 (by omega)).mono ?_
        rintro e w2 ⟨x, x0, x1, rfl, hS2, hO2⟩
        have x2 : x < 21 := by omega
        have HO2 := Lib.hid hO2
        clear hO2 x1
        go_wp2_with (go_at_call 57; refine (l01Mod_any _ _).mono ?_; rintro e w' ⟨rfl, rfl⟩)
        go_ret
        exact ⟨(x - 10) % 55441, ⟨by omega, by omega⟩, rfl, hS2, HO1.out.trans HO2.out⟩
      · have h2 : (r == 2) = false := by simp [e2]
        clear e2 e1 e0 r0 r1
        go_wp2_with fail
        refine (l01Next_any B _ _ hS1 (by omega)).mono ?_
        rintro e w2 ⟨x, x0, x1, rfl, hS2, hO2⟩
        have x2 : x < 41 := by omega
        have HO2 := Lib.hid hO2
        clear hO2 x1
        go_wp2_with (go_at_call 57; refine (l01Mod_any _ _).mono ?_; rintro e w' ⟨rfl, rfl⟩)
        refine (l01Next_any B _ _ hS2 (by omega)).mono ?_
        rintro e w3 ⟨y, y0, y1, rfl, hS3, hO3⟩
        have y2 : y < 20 := by omega
        have HO3 := Lib.hid hO3
        clear hO3 y1
        obtain ⟨p0, p1⟩ := pwI_bd (1 + y) 55439
        obtain ⟨m0, m1⟩ := mul_bound ((x - 20) % 55441) _ (by omega) (by omega) p0 p1
        go_wp2_with (go_at_call 58; refine (l01Inv_any _ _ (by omega) (by omega)).mono ?_; rintro e w' ⟨rfl, rfl⟩)
        go_ret
        exact ⟨(x - 20) % 55441 * pwI (1 + y) 55439 % 55441, ⟨by omega, by omega⟩, rfl, hS3, (HO1.out.trans HO2.out).trans HO3.out⟩
theorem l01Spoil_any (B : Nat) (w : World) (hS : Src w B) : Calls Tryd.prog 30 #[.pointer (some ⟨B, 0, none⟩)] w fun e w' => RetPost AnInt B w e w' := by
  go_enter Tryd.func30, Tryd.ntmps30
  go_wp2_with fail
  refine (l01Next_any B _ _ hS (by omega)).mono ?_
  rintro e w1 ⟨r, r0, r1, rfl, hS1, hO1⟩
  have HO1 := Lib.hid hO1
  clear hO1 hS
  by_cases e0 : r = 0
  · have h0 : (r == 0) = true := by simp [e0]
    clear e0 r0 r1
    go_wp2_with fail
    refine (l01Pick_any B w1.heap.size 0 4 _ [-1, 55441, 1099511627776, -4611686018427387904] _ (hS1.alloc _) rfl (by omega) (by omega) (Nat.ne_of_gt hS1.lt) (by simp) (fun i hi => lit_cell w1 _ _ _ rfl i hi)).mono ?_
    rintro e w2 ⟨x, hx, rfl, hS2, hO2⟩
    have Hx := Lib.hid (show AnInt x by unfold AnInt; simp at hx; omega)
    have HO2 := Lib.hid (((Only.refl B w1).alloc _).trans hO2)
    clear hO2 hx
    go_wp2_with fail
    go_ret
    exact ⟨x, Hx.out, rfl, hS2, HO1.out.trans HO2.out⟩
  · have h0 : (r == 0) = false := by simp [e0]
    clear e0 r0 r1
    go_wp2_with fail
    refine (l01Draw_any B _ hS1).mono ?_
    rintro e w2 ⟨x, ⟨x0, x1⟩, rfl, hS2, hO2⟩
    have HO2 := Lib.hid hO2
    clear hO2
    go_wp2_with fail
    go_ret
    exact ⟨x, by unfold AnInt; omega, rfl, hS2, HO1.out.trans HO2.out⟩
/-- what two draws come to -/
def TwoPost (P : Int → Int → Prop) (w : World) (e : Ending) (w' : World) : Prop := ∃ a b : Int, P a b ∧ e = .returned (.tuple #[.int .i64 a, .int .i64 b]) ∧ Below w.heap.size w w'
def OnePost (P : Int → Prop) (w : World) (e : Ending) (w' : World) : Prop := ∃ a : Int, P a ∧ e = .returned (.int .i64 a) ∧ Below w.heap.size w w'
theorem mod5_any (k : Int) (w : World) : Calls Tryd.prog 20 #[.int .i64 k] w fun e w' => e = .returned (.int .i64 (k % 55441)) ∧ w = w' := by
  have H := Lib.hid (mod_go k)
  obtain ⟨b1, b2⟩ := tmod_bd k
  go_enter Tryd.func20, Tryd.ntmps20
  go_wp2
  go_ret
  exact ⟨ret_int H.out, rfl⟩
theorem big_any (ca : Option Addr) (n cc : Nat) (w : World) : Calls Tryd.prog 6 #[.slice ca n cc] w fun e w' => e = .returned (.bool (decide (4096 < (n : Int)))) ∧ w = w' := by
  go_enter Tryd.func6, Tryd.ntmps6
  go_wp2
  go_ret
  exact ⟨rfl, rfl⟩
end Go.Proofs.YtjmkmcabpjmkgaaDoor
