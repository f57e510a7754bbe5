/- Eigenspaces: of both. -/
import Derived.Test.YtaffiohdjkbkkaaKeR
namespace Go.Proofs.Ytaffiohdjkbkkaa
open Go.RowKit
set_option linter.unusedSimpArgs false
theorem l02Less_f (a : Option Addr) (n c : Nat) (F : Mat) (x : K) (w : World) (h : RdM w a n (fun _ => n) (fun i j => vK (F i j))) (h0 : 0 < n) (hn : n ≤ 1000) :
    Calls Try.prog 108 #[.slice a n c, .int .i64 (vK x)] w (RetM 23 2 w n (fun _ => n) (fun i j => vK (diagK F (0 - x) i j))) := by
  have H := Lib.hid h
  have hxb := vK_bd x
  have HS := Lib.hid (fun i => vK_sub (F i i) x)
  have HDi := Lib.hid (fun i => show F i i - x = F i i + (0 - x) by grind)
  clear h
  obtain ⟨xv, hxv⟩ : ∃ v, v = vK x := ⟨_, rfl⟩
  rw [← hxv] at hxb ⊢
  rw [← hxv] at HS
  clear hxv
  go_enter Try.func108, Try.ntmps108
  go_wp2_with fail
  refine (l01Own2_f _ n n _ _ _ H.out h0 (by omega) (by omega)).mono ?_
  rintro e w1 ⟨b, cp, C, G, y1, y2, rfl, hM, hB⟩
  have HM := Lib.hid hM
  have HB := Lib.hid hB
  have HY := Lib.hid (And.intro y1 y2)
  clear hM hB y1 y2
  go_wp2_with fail
  go_loopw [6] (fun i wr => ∃ q : Nat, q ≤ n ∧ i = .int .i64 q ∧ MatB wr 23 2 w.heap.size b n (fun _ => n) C G (fun i j => if i < q then vK (diagK F (0 - x) i j) else vK (F i j)) ∧ Below w.heap.size w wr) (fun i _ => n - (intOf i).toNat)
  case atStart => exact ⟨0, by omega, rfl, HM.out, HB.out⟩
  case round =>
    obtain ⟨q, hq, rfl, hm, hbl⟩ := hrel
    have HM2 := Lib.hid hm
    have HB2 := Lib.hid hbl
    clear hm hbl
    by_cases hlt : q < n
    · have e1 := RowB.cell HM2.out.outer hlt
      have Hrw := Lib.hid (HM2.out.row q hlt)
      have e2 := RowB.cell (show RowB wr 2 (G q) n _ from Hrw.out.2.2.2) hlt
      have e3 := RowB.frozen (show RowB wr 2 (G q) n _ from Hrw.out.2.2.2) q
      simp only [if_neg (show ¬ q < q by omega)] at e2
      obtain ⟨gq, hgq⟩ : ∃ v, v = G q := ⟨_, rfl⟩
      rw [← hgq] at e1 e2 e3
      have HG := Lib.hid hgq
      clear hgq
      generalize C q = cq at e1
      have hzb := vK_bd (F q q)
      have HSq := Lib.hid (HS.out q)
      obtain ⟨z, hz⟩ : ∃ v, v = vK (F q q) := ⟨_, rfl⟩
      rw [← hz] at e2 hzb HSq
      have hw : IntKind.i64.wrap (z - xv) = z - xv := IntWalk.i64_in _ (by omega)
      clear hz
      go_wp2_with fail
      refine (l01Mod_any (z - xv) wr).mono ?_
      rintro e w2 ⟨rfl, rfl⟩
      rw [HSq.out, HDi.out]
      go_wp2_with fail
      go_roundw
      case rel =>
        refine ⟨q + 1, by omega, by go_num, ?_, HB2.out.setCell (by simp; have := Hrw.out.1; rw [HG.out]; exact this) _⟩
        rw [HG.out]
        refine (HM2.out.set (by decide) hlt (j := q) (vK (F q q + (0 - x)))).congr fun i hi j hj => ?_
        by_cases e : i = q
        · subst e
          by_cases e' : j = i
          · subst e'; simp [diagK]
          · rw [if_neg (fun h => e' h.2), if_neg (by omega), if_pos (by omega)]
            simp only [diagK, if_neg (show ¬ i = j from fun h => e' h.symm)]
        · rw [if_neg (fun h => e h.1)]
          by_cases e' : i < q
          · rw [if_pos e', if_pos (by omega)]
          · rw [if_neg e', if_neg (by omega)]
      case measure => simp [intOf]; omega
    · obtain rfl : q = n := by omega
      go_wp2_with fail
      go_ret
      exact ⟨b, cp, C, G, HY.out.1, HY.out.2, rfl, HM2.out.congr (fun i hi j _ => by rw [if_pos hi]), HB2.out⟩
def eigA (f : Nat → Nat → Int) (v : Int) : Mat := diagK (kM f) (0 - kOf v)
noncomputable def eigQ (n : Nat) (f : Nat → Nat → Int) (v : Int) : Nat := kerQ n n (eigA f v)
noncomputable def okEig (n : Nat) (L : Nat → Nat) (f : Nat → Nat → Int) (v : Int) : Bool := sqB n L f && numB v
noncomputable def cEig (n : Nat) (L : Nat → Nat) (f : Nat → Nat → Int) (v : Int) : Int := if sqB n L f = true then (if numB v = true then (if eigQ n f v = 0 then 4 else 0) else 2) else cSq n L f
theorem implEig_f_rows (n : Nat) (L : Nat → Nat) (f : Nat → Nat → Int) (v : Int) : nIf (okEig n L f v) (eigQ n f v) ≤ 64 := by
  unfold nIf
  split
  · rename_i h
    have hh : sqB n L f = true := by simp [okEig] at h; exact h.1
    obtain ⟨-, -, d0, d1, -⟩ := sqB_t hh
    have := kerQ_le n n (eigA f v)
    unfold eigQ; omega
  · omega
theorem implEig_f_cols (n : Nat) (L : Nat → Nat) (f : Nat → Nat → Int) (v : Int) : ∀ i, i < nIf (okEig n L f v) (eigQ n f v) → n ≤ 64 := by
  unfold nIf
  split
  · rename_i h
    have hh : sqB n L f = true := by simp [okEig] at h; exact h.1
    obtain ⟨-, -, d0, d1, -⟩ := sqB_t hh
    intro i hi; omega
  · intro i hi; omega
end Go.Proofs.Ytaffiohdjkbkkaa
