/- Copies of rows and tables, in the program. -/
import Derived.Test.YtaffiohdjkbkkaaIs
namespace Go.Proofs.Ytaffiohdjkbkkaa
open Go.RowKit
theorem numbersOf_f (a : Option Addr) (n cap : Nat) (f : Nat → Int) (w : World) (h : RdR w a n f) (hn : n ≤ 9000000000) :
    Calls Try.prog 67 #[.slice a n cap] w fun e w' => e = .returned (.slice (some ⟨w.heap.size, 0, none⟩) n n) ∧ RowI w' 123 w.heap.size n f ∧ Below w.heap.size w w' ∧ w'.heap.size = w.heap.size + 1 := by
  have hmk := run_make_row' (P := Try.prog) 80 123 (.int .i64 0) 8 Try.underlying80 infoNum rfl .i64 .i64 n (by omega) (by omega)
  have H := Lib.hid h
  clear h
  go_enter Try.func67, Try.ntmps67
  go_wp2_with fail
  have Hmk := Lib.hid hmk
  clear hmk
  go_loopw [11] (fun i wr => ∃ k : Nat, k ≤ n ∧ i = .int .i64 k ∧ RowI wr 123 w.heap.size n (fun j => if j < k then f j else 0) ∧ Below w.heap.size w wr ∧ wr.heap.size = w.heap.size + 1) (fun i _ => n - (intOf i).toNat)
  case atStart => exact ⟨0, by omega, rfl, (RowB_of_rowIs (World.rowIs_made w (.int .i64 0) n 123)).congr (fun j _ => rfl), below_alloc _ _, by simp⟩
  case round =>
    obtain ⟨k, hk, rfl, hrow, hbl, hsz⟩ := hrel
    have Hbl := Lib.hid hbl
    have Hrow := Lib.hid hrow
    have Hsz := Lib.hid hsz
    clear hbl hrow hsz
    by_cases hlt : k < n
    · obtain ⟨b, off, rfl, hb, hc⟩ := H.out.resolve_left (by omega)
      have hcs : wr.cell? ⟨b, off + k, none⟩ = some (.int .i64 (f k)) := by rw [Hbl.out.cell (p := ⟨b, off + k, none⟩) hb]; exact hc k hlt
      have Hc := Lib.hid hc
      clear hc
      have hcd := RowB.cell Hrow.out hlt
      have hfd := RowB.frozen Hrow.out k
      go_wp2_with fail
      go_roundw
      case rel =>
        refine ⟨k + 1, by omega, by go_num, (RowI.set Hrow.out k (f k)).congr (fun j hj => ?_), Hbl.out.setCell (Nat.le_refl _) _, by simpa using Hsz.out⟩
        by_cases e : j = k
        · simp [e]
        · simp only [if_neg e]
          by_cases e' : j < k
          · rw [if_pos e', if_pos (by omega)]
          · rw [if_neg e', if_neg (by omega)]
      case measure => simp [intOf]; omega
    · obtain rfl : k = n := by omega
      go_wp2_with fail
      go_ret
      exact ⟨rfl, Hrow.out.congr (fun j hj => by rw [if_pos hj]), Hbl.out, Hsz.out⟩
theorem integersOf_f (a : Option Addr) (n cap : Nat) (f : Nat → Int) (w : World) (h : RdR w a n f) (hn : n ≤ 9000000000) :
    Calls Try.prog 82 #[.slice a n cap] w fun e w' => e = .returned (.slice (some ⟨w.heap.size, 0, none⟩) n n) ∧ RowI w' 2 w.heap.size n f ∧ Below w.heap.size w w' ∧ w'.heap.size = w.heap.size + 1 := by
  have hmk := run_make_row' (P := Try.prog) 23 2 (.int .i64 0) 8 Try.underlying23 infoI64 rfl .i64 .i64 n (by omega) (by omega)
  have H := Lib.hid h
  clear h
  go_enter Try.func82, Try.ntmps82
  go_wp2_with fail
  have Hmk := Lib.hid hmk
  clear hmk
  go_loopw [11] (fun i wr => ∃ k : Nat, k ≤ n ∧ i = .int .i64 k ∧ RowI wr 2 w.heap.size n (fun j => if j < k then f j else 0) ∧ Below w.heap.size w wr ∧ wr.heap.size = w.heap.size + 1) (fun i _ => n - (intOf i).toNat)
  case atStart => exact ⟨0, by omega, rfl, (RowB_of_rowIs (World.rowIs_made w (.int .i64 0) n 2)).congr (fun j _ => rfl), below_alloc _ _, by simp⟩
  case round =>
    obtain ⟨k, hk, rfl, hrow, hbl, hsz⟩ := hrel
    have Hbl := Lib.hid hbl
    have Hrow := Lib.hid hrow
    have Hsz := Lib.hid hsz
    clear hbl hrow hsz
    by_cases hlt : k < n
    · obtain ⟨b, off, rfl, hb, hc⟩ := H.out.resolve_left (by omega)
      have hcs : wr.cell? ⟨b, off + k, none⟩ = some (.int .i64 (f k)) := by rw [Hbl.out.cell (p := ⟨b, off + k, none⟩) hb]; exact hc k hlt
      have Hc := Lib.hid hc
      clear hc
      have hcd := RowB.cell Hrow.out hlt
      have hfd := RowB.frozen Hrow.out k
      go_wp2_with fail
      go_roundw
      case rel =>
        refine ⟨k + 1, by omega, by go_num, (RowI.set Hrow.out k (f k)).congr (fun j hj => ?_), Hbl.out.setCell (Nat.le_refl _) _, by simpa using Hsz.out⟩
        by_cases e : j = k
        · simp [e]
        · simp only [if_neg e]
          by_cases e' : j < k
          · rw [if_pos e', if_pos (by omega)]
          · rw [if_neg e', if_neg (by omega)]
      case measure => simp [intOf]; omega
    · obtain rfl : k = n := by omega
      go_wp2_with fail
      go_ret
      exact ⟨rfl, Hrow.out.congr (fun j hj => by rw [if_pos hj]), Hbl.out, Hsz.out⟩
theorem matrixOf_f (a : Option Addr) (n cap : Nat) (L : Nat → Nat) (f : Nat → Nat → Int) (w : World) (h : RdM w a n L f) (hn : n ≤ 9000000000) (hL : ∀ i, i < n → L i ≤ 9000000000) :
    Calls Try.prog 114 #[.slice a n cap] w fun e w' => e = .returned (.slice (some ⟨w.heap.size, 0, none⟩) n n) ∧ MatB w' 80 123 w.heap.size w.heap.size n L L (fun i => w.heap.size + 1 + i) f ∧ Below w.heap.size w w' ∧ w'.heap.size = w.heap.size + 1 + n := by
  have hmk := run_make_row' (P := Try.prog) 78 80 (.slice none 0 0) 24 Try.underlying78 infoNums rfl .i64 .i64 n (by omega) (by omega)
  have H := Lib.hid h
  have HL := Lib.hid hL
  clear h hL
  go_enter Try.func114, Try.ntmps114
  go_wp2_with fail
  have Hmk := Lib.hid hmk
  clear hmk
  go_loopw [11] (fun i wr => ∃ k : Nat, k ≤ n ∧ i = .int .i64 k ∧ RowB wr 80 w.heap.size n (fun j => if j < k then .slice (some ⟨w.heap.size + 1 + j, 0, none⟩) (L j) (L j) else .slice none 0 0) ∧ (∀ j, j < k → RowI wr 123 (w.heap.size + 1 + j) (L j) (f j)) ∧ Below w.heap.size w wr ∧ wr.heap.size = w.heap.size + 1 + k) (fun i _ => n - (intOf i).toNat)
  case atStart => exact ⟨0, by omega, rfl, (RowB_of_rowIs (World.rowIs_made w (.slice none 0 0) n 80)).congr (fun j _ => rfl), fun j hj => absurd hj (by omega), below_alloc _ _, by simp⟩
  case round =>
    obtain ⟨k, hk, rfl, hrow, hin, hbl, hsz⟩ := hrel
    have Hbl := Lib.hid hbl
    have Hrow := Lib.hid hrow
    have Hin := Lib.hid hin
    have Hsz := Lib.hid hsz
    clear hbl hrow hin hsz
    by_cases hlt : k < n
    · obtain ⟨b, off, A, C, rfl, hb, hc⟩ := H.out.resolve_left (by omega)
      have hcs : wr.cell? ⟨b, off + k, none⟩ = some (.slice (A k) (L k) (C k)) := by rw [Hbl.out.cell (p := ⟨b, off + k, none⟩) hb]; exact (hc k hlt).1
      have Hr := Lib.hid ((hc k hlt).2.below Hbl.out (Nat.le_refl _))
      have Hc := Lib.hid hc
      have hlk := HL.out k hlt
      clear hc
      go_wp2_with fail
      refine (numbersOf_f (A k) (L k) (C k) _ _ Hr.out hlk).mono ?_
      rintro e w1 ⟨rfl, hrow1, hb1, hs1⟩
      have Hrow1 := Lib.hid hrow1
      have Hb1 := Lib.hid hb1
      have Hs1 := Lib.hid hs1
      have Ho1 := Lib.hid (RowB.below Hrow.out hb1 (by rw [Hsz.out]; omega))
      clear hrow1 hb1 hs1
      have hcd := RowB.cell Ho1.out hlt
      have hfd := RowB.frozen Ho1.out k
      go_wp2_with fail
      go_roundw
      case rel =>
        have hz := Hsz.out
        refine ⟨k + 1, by omega, by go_num, (RowB.set Ho1.out k _).congr (fun j hj => ?_), fun j hj => ?_, (Hbl.out.trans (Hb1.out.mono Hbl.out.size)).setCell (Nat.le_refl _) _, by simp [Hs1.out, hz]; omega⟩
        · by_cases e : j = k
          · rw [if_pos e, if_pos (by omega), e, hz]
          · rw [if_neg e]
            by_cases e' : j < k
            · rw [if_pos e', if_pos (by omega)]
            · rw [if_neg e', if_neg (by omega)]
        · refine RowB.setOther ?_ (by simp; omega) _
          by_cases e : j = k
          · rw [e, ← hz]; exact Hrow1.out
          · exact RowB.below (Hin.out j (by omega)) Hb1.out (by omega)
      case measure => simp [intOf]; omega
    · obtain rfl : k = n := by omega
      go_wp2_with fail
      go_ret
      refine ⟨rfl, ⟨Nat.le_refl _, Hrow.out.congr (fun j hj => by rw [if_pos hj]), fun i hi => ⟨by omega, Nat.le_refl _, ?_, Hin.out i hi⟩, fun i j _ _ hne => by omega⟩, Hbl.out, Hsz.out⟩
      have := HL.out i hi
      unfold maxLen; omega
theorem integers_f (a : Option Addr) (n cap : Nat) (L : Nat → Nat) (f : Nat → Nat → Int) (w : World) (h : RdM w a n L f) (hn : n ≤ 9000000000) (hL : ∀ i, i < n → L i ≤ 9000000000) :
    Calls Try.prog 68 #[.slice a n cap] w fun e w' => e = .returned (.slice (some ⟨w.heap.size, 0, none⟩) n n) ∧ MatB w' 23 2 w.heap.size w.heap.size n L L (fun i => w.heap.size + 1 + i) f ∧ Below w.heap.size w w' ∧ w'.heap.size = w.heap.size + 1 + n := by
  have hmk := run_make_row' (P := Try.prog) 25 23 (.slice none 0 0) 24 Try.underlying25 infoRow rfl .i64 .i64 n (by omega) (by omega)
  have H := Lib.hid h
  have HL := Lib.hid hL
  clear h hL
  go_enter Try.func68, Try.ntmps68
  go_wp2_with fail
  have Hmk := Lib.hid hmk
  clear hmk
  go_loopw [11] (fun i wr => ∃ k : Nat, k ≤ n ∧ i = .int .i64 k ∧ RowB wr 23 w.heap.size n (fun j => if j < k then .slice (some ⟨w.heap.size + 1 + j, 0, none⟩) (L j) (L j) else .slice none 0 0) ∧ (∀ j, j < k → RowI wr 2 (w.heap.size + 1 + j) (L j) (f j)) ∧ Below w.heap.size w wr ∧ wr.heap.size = w.heap.size + 1 + k) (fun i _ => n - (intOf i).toNat)
  case atStart => exact ⟨0, by omega, rfl, (RowB_of_rowIs (World.rowIs_made w (.slice none 0 0) n 23)).congr (fun j _ => rfl), fun j hj => absurd hj (by omega), below_alloc _ _, by simp⟩
  case round =>
    obtain ⟨k, hk, rfl, hrow, hin, hbl, hsz⟩ := hrel
    have Hbl := Lib.hid hbl
    have Hrow := Lib.hid hrow
    have Hin := Lib.hid hin
    have Hsz := Lib.hid hsz
    clear hbl hrow hin hsz
    by_cases hlt : k < n
    · obtain ⟨b, off, A, C, rfl, hb, hc⟩ := H.out.resolve_left (by omega)
      have hcs : wr.cell? ⟨b, off + k, none⟩ = some (.slice (A k) (L k) (C k)) := by rw [Hbl.out.cell (p := ⟨b, off + k, none⟩) hb]; exact (hc k hlt).1
      have Hr := Lib.hid ((hc k hlt).2.below Hbl.out (Nat.le_refl _))
      have Hc := Lib.hid hc
      have hlk := HL.out k hlt
      clear hc
      go_wp2_with fail
      refine (integersOf_f (A k) (L k) (C k) _ _ Hr.out hlk).mono ?_
      rintro e w1 ⟨rfl, hrow1, hb1, hs1⟩
      have Hrow1 := Lib.hid hrow1
      have Hb1 := Lib.hid hb1
      have Hs1 := Lib.hid hs1
      have Ho1 := Lib.hid (RowB.below Hrow.out hb1 (by rw [Hsz.out]; omega))
      clear hrow1 hb1 hs1
      have hcd := RowB.cell Ho1.out hlt
      have hfd := RowB.frozen Ho1.out k
      go_wp2_with fail
      go_roundw
      case rel =>
        have hz := Hsz.out
        refine ⟨k + 1, by omega, by go_num, (RowB.set Ho1.out k _).congr (fun j hj => ?_), fun j hj => ?_, (Hbl.out.trans (Hb1.out.mono Hbl.out.size)).setCell (Nat.le_refl _) _, by simp [Hs1.out, hz]; omega⟩
        · by_cases e : j = k
          · rw [if_pos e, if_pos (by omega), e, hz]
          · rw [if_neg e]
            by_cases e' : j < k
            · rw [if_pos e', if_pos (by omega)]
            · rw [if_neg e', if_neg (by omega)]
        · refine RowB.setOther ?_ (by simp; omega) _
          by_cases e : j = k
          · rw [e, ← hz]; exact Hrow1.out
          · exact RowB.below (Hin.out j (by omega)) Hb1.out (by omega)
      case measure => simp [intOf]; omega
    · obtain rfl : k = n := by omega
      go_wp2_with fail
      go_ret
      refine ⟨rfl, ⟨Nat.le_refl _, Hrow.out.congr (fun j hj => by rw [if_pos hj]), fun i hi => ⟨by omega, Nat.le_refl _, ?_, Hin.out i hi⟩, fun i j _ _ hne => by omega⟩, Hbl.out, Hsz.out⟩
      have := HL.out i hi
      unfold maxLen; omega
end Go.Proofs.Ytaffiohdjkbkkaa
