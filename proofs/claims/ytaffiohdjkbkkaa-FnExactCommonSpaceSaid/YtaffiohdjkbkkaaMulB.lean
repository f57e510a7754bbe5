/- Products with vectors and of matrices, of both programs. -/
import Derived.Test.YtaffiohdjkbkkaaMul
namespace Go.Proofs.Ytaffiohdjkbkkaa
open Go.RowKit
/-- the product of two tables, k the rows of the second one -/
def mulK (k : Nat) (F G : Mat) : Mat := fun i j => sumK k (fun t => F i t * G t j)
/-- the product of a table with a vector -/
def appK (m : Nat) (F : Mat) (v : Nat → K) : Nat → K := fun i => sumK m (fun t => F i t * v t)
theorem apply_f (a b : Option Addr) (n m c d : Nat) (F : Mat) (v : Nat → K) (w : World) (ha : RdM w a n (fun _ => m) (fun i j => vK (F i j))) (hb : RdR w b m (fun i => vK (v i))) (hn : n ≤ 100000) (hm : m ≤ 100000) :
    Calls Try.prog 184 #[.slice a n c, .slice b m d] w fun e w' => e = .returned (.slice (some ⟨w.heap.size, 0, none⟩) n n) ∧ RowI w' 123 w.heap.size n (fun i => vK (appK m F v i)) ∧ Below w.heap.size w w' ∧ w'.heap.size = w.heap.size + 1 := by
  have hmk := run_make_row' (P := Try.prog) 80 123 (.int .i64 0) 8 Try.underlying80 infoNum rfl .i64 .i64 n (by omega) (by omega)
  have HA := Lib.hid ha
  have HB := Lib.hid hb
  clear ha hb
  go_enter Try.func184, Try.ntmps184
  go_wp2_with fail
  have Hmk := Lib.hid hmk
  clear hmk
  go_loopw [13] (fun i wr => ∃ k : Nat, k ≤ n ∧ i = .int .i64 k ∧ RowI wr 123 w.heap.size n (fun j => if j < k then vK (appK m F v j) else 0) ∧ Below w.heap.size w wr ∧ wr.heap.size = w.heap.size + 1) (fun i _ => n - (intOf i).toNat)
  case atStart => exact ⟨0, by omega, rfl, (RowB_of_rowIs (World.rowIs_made w (.int .i64 0) n 123)).congr (fun j _ => rfl), below_alloc _ _, by simp⟩
  case round =>
    obtain ⟨k, hk, rfl, hrow, hbl, hsz⟩ := hrel
    have Hbl := Lib.hid hbl
    have Hrow := Lib.hid hrow
    have Hsz := Lib.hid hsz
    clear hbl hrow hsz
    by_cases hlt : k < n
    · obtain ⟨b1, off, A, C, rfl, hb1, hc⟩ := HA.out.open (by omega)
      have hcs : wr.cell? ⟨b1, off + k, none⟩ = some (.slice (A k) m (C k)) := by rw [Hbl.out.cell (p := ⟨b1, off + k, none⟩) hb1]; exact (hc k hlt).1
      have Hr := Lib.hid ((hc k hlt).2.below Hbl.out (Nat.le_refl _))
      have Hv := Lib.hid (HB.out.below Hbl.out (Nat.le_refl _))
      have Hc := Lib.hid hc
      clear hc
      generalize A k = ak at *
      generalize C k = ck at *
      go_wp2_with fail
      refine (dot_f ak b m ck d (F k) v _ Hr.out Hv.out hm).mono ?_
      rintro e w1 ⟨rfl, hd⟩
      have Ho1 := Lib.hid (RowI.below Hrow.out (hd.below (B := wr.heap.size)) (by rw [Hsz.out]; omega))
      have HD := Lib.hid hd
      have Hs1 := Lib.hid (show w1.heap.size = w.heap.size + 1 by rw [← Hsz.out]; obtain ⟨q, rfl⟩ := hd; rfl)
      clear hd
      have hcd := RowB.cell Ho1.out hlt
      have hfd := RowB.frozen Ho1.out k
      go_wp2_with fail
      go_roundw
      case rel =>
        refine ⟨k + 1, by omega, by go_num, (RowI.set Ho1.out k (vK (appK m F v k))).congr (fun j hj => ?_), (Hbl.out.trans HD.out.below).setCell (Nat.le_refl _) _, by simpa using Hs1.out⟩
        by_cases e : j = k
        · simp [e]
        · simp only [if_neg e]
          by_cases e' : j < k
          · rw [if_pos e', if_pos (by omega)]
          · rw [if_neg e', if_neg (by omega)]
      case measure => simp [intOf]; omega
    · obtain rfl : k = n := by omega
      go_wp2_with fail
      go_ret
      exact ⟨rfl, Hrow.out.congr (fun j hj => by rw [if_pos hj]), Hbl.out, Hsz.out⟩
theorem times_f (a b : Option Addr) (n k m c d : Nat) (F G : Mat) (w : World) (ha : RdM w a n (fun _ => k) (fun i j => vK (F i j))) (hb : RdM w b k (fun _ => m) (fun i j => vK (G i j))) (hk0 : 0 < k) (hn : n ≤ 1000) (hk : k ≤ 1000) (hm : m ≤ 1000) :
    Calls Try.prog 144 #[.slice a n c, .slice b k d] w (RetM 80 123 w n (fun _ => m) (fun i j => vK (mulK k F G i j))) := by
  have hmk := run_make_row' (P := Try.prog) 78 80 (.slice none 0 0) 24 Try.underlying78 infoNums rfl .i64 .i64 n (by omega) (by omega)
  have HA := Lib.hid ha
  have HB := Lib.hid hb
  clear ha hb
  go_enter Try.func144, Try.ntmps144
  go_wp2_with fail
  refine (transposed_f _ k m _ _ _ HB.out hk0 hk hm).mono ?_
  rintro e u ⟨b0, b1, rfl, hZ, hB2⟩
  have HZ := Lib.hid hZ.rd
  have HB2 := Lib.hid hB2
  clear hZ hB2
  have HAu := Lib.hid (HA.out.below HB2.out (Nat.le_refl _))
  go_wp2_with fail
  have Hmk := Lib.hid hmk
  clear hmk
  go_loopw [16] (fun i wr => ∃ q : Nat, q ≤ n ∧ i = .int .i64 q ∧ RowB wr 80 u.heap.size n (fun j => if j < q then .slice (some ⟨u.heap.size + 1 + j, 0, none⟩) m m else .slice none 0 0) ∧ (∀ j, j < q → RowI wr 123 (u.heap.size + 1 + j) m (fun t => vK (mulK k F G j t))) ∧ Below u.heap.size u wr ∧ wr.heap.size = u.heap.size + 1 + q) (fun i _ => n - (intOf i).toNat)
  case atStart => exact ⟨0, by omega, rfl, (RowB_of_rowIs (World.rowIs_made u (.slice none 0 0) n 80)).congr (fun j _ => rfl), fun j hj => absurd hj (by omega), below_alloc _ _, by simp⟩
  case round =>
    obtain ⟨q, hq, rfl, hrow, hin, hbl, hsz⟩ := hrel
    have Hbl := Lib.hid hbl
    have Hrow := Lib.hid hrow
    have Hin := Lib.hid hin
    have Hsz := Lib.hid hsz
    clear hbl hrow hin hsz
    by_cases hlt : q < n
    · obtain ⟨b3, off, A, C, rfl, hb3, hc⟩ := HAu.out.open (by omega)
      have hcs : wr.cell? ⟨b3, off + q, none⟩ = some (.slice (A q) k (C q)) := by rw [Hbl.out.cell (p := ⟨b3, off + q, none⟩) hb3]; exact (hc q hlt).1
      have Hr := Lib.hid ((hc q hlt).2.below Hbl.out (Nat.le_refl _))
      have HZr := Lib.hid (HZ.out.below Hbl.out (Nat.le_refl _))
      have Hc := Lib.hid hc
      clear hc
      generalize A q = ak at *
      generalize C q = ck at *
      go_wp2_with fail
      refine (apply_f _ _ m k _ _ (fun i j => G j i) (F q) _ HZr.out Hr.out (by omega) (by omega)).mono ?_
      rintro e w1 ⟨rfl, hrow1, hb1, hs1⟩
      have Hrow1 := Lib.hid hrow1
      have Hb1 := Lib.hid hb1
      have Hs1 := Lib.hid hs1
      have Ho1 := Lib.hid (RowB.below Hrow.out hb1 (by rw [Hsz.out]; omega))
      clear hrow1 hb1 hs1
      have hcd := RowB.cell Ho1.out hlt
      have hfd := RowB.frozen Ho1.out q
      go_wp2_with fail
      go_roundw
      case rel =>
        have hz := Hsz.out
        refine ⟨q + 1, by omega, by go_num, (RowB.set Ho1.out q _).congr (fun j hj => ?_), fun j hj => ?_, (Hbl.out.trans (Hb1.out.mono Hbl.out.size)).setCell (Nat.le_refl _) _, by simp [Hs1.out, hz]; omega⟩
        · by_cases e : j = q
          · rw [if_pos e, if_pos (by omega), e, hz]
          · rw [if_neg e]
            by_cases e' : j < q
            · rw [if_pos e', if_pos (by omega)]
            · rw [if_neg e', if_neg (by omega)]
        · refine RowB.setOther ?_ (by simp; omega) _
          by_cases e : j = q
          · rw [e, ← hz]
            refine Hrow1.out.congr fun t ht => ?_
            unfold appK mulK
            rw [sumK_congr (f := fun i => G i t * F q i) (g := fun i => F q i * G i t) (fun i _ => by grind)]
          · exact RowB.below (Hin.out j (by omega)) Hb1.out (by omega)
      case measure => simp [intOf]; omega
    · obtain rfl : q = n := by omega
      go_wp2_with fail
      go_ret
      have hwu := HB2.out.size
      refine ⟨u.heap.size, q, fun _ => m, fun i => u.heap.size + 1 + i, Nat.le_refl _, by unfold maxLen; omega, rfl, ⟨hwu, Hrow.out.congr (fun j hj => by rw [if_pos hj]), fun i hi => ⟨by omega, Nat.le_refl _, by unfold maxLen; omega, Hin.out i hi⟩, fun i j _ _ hne => by omega⟩, HB2.out.trans (Hbl.out.mono hwu)⟩
end Go.Proofs.Ytaffiohdjkbkkaa
