/- The ends of rows; the inverse (program). -/
import Derived.Test.YtaffiohdjkbkkaaBse
namespace Go.Proofs.Ytaffiohdjkbkkaa
open Go.RowKit
set_option linter.unusedSimpArgs false
set_option maxHeartbeats 2000000 in
set_option maxRecDepth 100000 in
theorem cutFrom_f (b lo n m k cp : Nat) (C G : Nat → Nat) (f : Nat → Nat → Int) (w : World) (h : MatB w 80 123 lo b n (fun _ => m) C G f) (hk : k < m) (hn : n ≤ 1000) (_hm : m ≤ 2000) :
    Calls Try.prog 172 #[.slice (some ⟨b, 0, none⟩) n cp, .int .i64 k] w fun e w' => e = .returned (.slice (some ⟨w.heap.size, 0, none⟩) n n) ∧ RdM w' (some ⟨w.heap.size, 0, none⟩) n (fun _ => m - k) (fun i j => f i (k + j)) ∧ Below w.heap.size w w' := by
  have hmk := run_make_row' (P := Try.prog) 78 80 (.slice none 0 0) 24 Try.underlying78 infoNums rfl .i64 .i64 n (by omega) (by omega)
  have H := Lib.hid h
  clear h
  go_enter Try.func172, Try.ntmps172
  go_wp2_with fail
  have Hmk := Lib.hid hmk
  clear hmk
  go_loopw [13] (fun i wr => ∃ (q : Nat), q ≤ n ∧ i = .int .i64 q ∧ RowB wr 80 w.heap.size n (fun j => if j < q then .slice (some ⟨G j, k, none⟩) (m - k) (m - k) else .slice none 0 0) ∧ Below w.heap.size w wr) (fun i _ => n - (intOf i).toNat)
  case atStart => exact ⟨0, by omega, rfl, (RowB_of_rowIs (World.rowIs_made w (.slice none 0 0) n 80)).congr (fun j _ => rfl), below_alloc _ _⟩
  case round =>
    obtain ⟨q, hq, rfl, hr, hb⟩ := hrel
    have HR := Lib.hid hr
    have HB := Lib.hid hb
    clear hr hb
    by_cases hlt : q < n
    · have e1 : wr.cell? ⟨b, q, none⟩ = some (.slice (some ⟨G q, 0, none⟩) m (C q)) := by
        rw [HB.out.cell (p := ⟨b, q, none⟩) H.out.outer.lt]; exact RowB.cell H.out.outer hlt
      have hC1 := (H.out.row q hlt).2.1
      have hC2 := (H.out.row q hlt).2.2.1
      unfold maxLen at hC2
      have hcd := RowB.cell HR.out hlt
      have hfd := RowB.frozen HR.out q
      have HS := Lib.hid (((HR.out.set q (.slice (some ⟨G q, k, none⟩) (m - k) (m - k))).congr (g := fun j => if j < q + 1 then .slice (some ⟨G j, k, none⟩) (m - k) (m - k) else .slice none 0 0) fun j hj => by
        by_cases e : j = q
        · subst e; simp only [if_pos, if_pos (show j < j + 1 by omega)]
        · simp only [if_neg e]
          by_cases e' : j < q
          · rw [if_pos e', if_pos (by omega)]
          · rw [if_neg e', if_neg (by omega)]))
      generalize C q = cq at *
      obtain ⟨gq, hgq⟩ : ∃ x, x = G q := ⟨_, rfl⟩
      rw [← hgq] at e1 HS
      clear hgq
      go_wp2_with fail
      exact ⟨⟨q + 1, by omega, by go_num, HS.out, HB.out.setCell (Nat.le_refl _) _⟩, by simp [intOf]; omega⟩
    · obtain rfl : q = n := by omega
      go_wp2_with fail
      go_ret
      refine ⟨rfl, Or.inr ⟨w.heap.size, 0, fun i => some ⟨G i, k, none⟩, fun _ => m - k, rfl, HR.out.lt, fun i hi => ⟨?_, ?_⟩⟩, HB.out⟩
      · have := RowB.cell HR.out hi
        rw [if_pos hi] at this
        simpa using this
      · have hrow : RowI wr 123 (G i) m (f i) := RowB.below (H.out.row i hi).2.2.2 HB.out (RowB.lt (H.out.row i hi).2.2.2)
        exact Or.inr ⟨G i, k, rfl, RowB.lt hrow, fun j hj => RowB.cell hrow (show k + j < m by have hj' : j < m - k := hj; omega)⟩
theorem cSq_ne' {n : Nat} {L : Nat → Nat} {f : Nat → Nat → Int} (h : sqB n L f = false) : (cSq n L f != 0) = true ∧ (cSq n L f == 0) = false := by
  rcases cSq_no h with ⟨e, _⟩ | ⟨e, _⟩ <;> rw [e] <;> exact ⟨rfl, rfl⟩
def okInv (n : Nat) (L : Nat → Nat) (f : Nat → Nat → Int) : Bool := sqB n L f && decide (¬ (gau n (kM f) n).2.1 < n)
def cInv (n : Nat) (L : Nat → Nat) (f : Nat → Nat → Int) : Int := if sqB n L f = true then (if (gau n (kM f) n).2.1 < n then 5 else 0) else cSq n L f
theorem implInv_f_rows (n : Nat) (L : Nat → Nat) (f : Nat → Nat → Int) : nIf (okInv n L f) n ≤ 64 := by
  unfold nIf
  split
  · rename_i h
    have hh : sqB n L f = true := by simp [okInv] at h; exact h.1
    obtain ⟨-, -, d0, d1, -⟩ := sqB_t hh
    omega
  · omega
theorem implInv_f_cols (n : Nat) (L : Nat → Nat) (f : Nat → Nat → Int) : ∀ i, i < nIf (okInv n L f) n → n ≤ 64 := by
  unfold nIf
  split
  · rename_i h
    have hh : sqB n L f = true := by simp [okInv] at h; exact h.1
    obtain ⟨-, -, d0, d1, -⟩ := sqB_t hh
    omega
  · intro i hi; omega
end Go.Proofs.Ytaffiohdjkbkkaa
