/- Tables whose rows are cut from one list; transposed matrices in the program. -/
import Derived.Test.YtaffiohdjkbkkaaCpy
import Derived.Test.YtaffiohdjkbkkaaTrn
namespace Go.Proofs.Ytaffiohdjkbkkaa
open Go.RowKit
/-- a table whose rows are cut from the block b0 -/
structure MatZ (w : World) (T t : TypeId) (b0 b n m : Nat) (f : Nat → Nat → Int) : Prop where
  outer : RowB w T b n (fun i => .slice (some ⟨b0, i * m, none⟩) m m)
  flat : RowI w t b0 (n * m) (fun x => f (x / m) (x % m))
theorem cut_at {n m i j : Nat} (hi : i < n) (hj : j < m) : i * m + j < n * m ∧ (i * m + j) / m = i ∧ (i * m + j) % m = j := by
  have h1 : (i + 1) * m ≤ n * m := Nat.mul_le_mul_right m (by omega)
  rw [Nat.succ_mul] at h1
  refine ⟨by omega, ?_, ?_⟩
  · rw [Nat.mul_comm, Nat.mul_add_div (by omega), Nat.div_eq_of_lt hj, Nat.add_zero]
  · rw [Nat.mul_comm, Nat.mul_add_mod, Nat.mod_eq_of_lt hj]
theorem MatZ.cellAt {w : World} {T t : TypeId} {b0 b n m : Nat} {f : Nat → Nat → Int} (h : MatZ w T t b0 b n m f) {i j : Nat} (hi : i < n) (hj : j < m) : w.cell? ⟨b0, i * m + j, none⟩ = some (.int .i64 (f i j)) := by
  obtain ⟨h1, h2, h3⟩ := cut_at hi hj
  have := RowB.cell h.flat h1
  simp only [h2, h3] at this
  exact this
theorem MatZ.rd {w : World} {T t : TypeId} {b0 b n m : Nat} {f : Nat → Nat → Int} (h : MatZ w T t b0 b n m f) : RdM w (some ⟨b, 0, none⟩) n (fun _ => m) f :=
  Or.inr ⟨b, 0, fun i => some ⟨b0, i * m, none⟩, fun _ => m, rfl, h.outer.lt, fun i hi => ⟨by rw [Nat.zero_add]; exact h.outer.cell hi, Or.inr ⟨b0, i * m, rfl, RowB.lt h.flat, fun j hj => h.cellAt hi hj⟩⟩⟩
theorem MatZ.below {w w' : World} {T t : TypeId} {b0 b n m : Nat} {f : Nat → Nat → Int} (h : MatZ w T t b0 b n m f) {B : Nat} (hb : Below B w w') (hB : w.heap.size ≤ B) : MatZ w' T t b0 b n m f :=
  ⟨h.outer.below hb (Nat.lt_of_lt_of_le h.outer.lt hB), h.flat.below hb (Nat.lt_of_lt_of_le (RowB.lt h.flat) hB)⟩
theorem MatZ.set {w : World} {T t : TypeId} {b0 b n m : Nat} {f : Nat → Nat → Int} (hT : T ≠ t) (h : MatZ w T t b0 b n m f) {i j : Nat} (hi : i < n) (hj : j < m) (v : Int) :
    MatZ (w.setCell ⟨b0, i * m + j, none⟩ (.int .i64 v)) T t b0 b n m (fun i' j' => if i' = i ∧ j' = j then v else f i' j') := by
  refine ⟨h.outer.setOther (RowB.ne h.outer (show RowB w t b0 (n * m) _ from h.flat) hT) _, (RowI.set h.flat (i * m + j) v).congr fun x hx => ?_⟩
  obtain ⟨h1, h2, h3⟩ := cut_at hi hj
  by_cases e : x = i * m + j
  · rw [if_pos e, e, h2, h3, if_pos ⟨rfl, rfl⟩]
  · rw [if_neg e, if_neg]
    intro ⟨e1, e2⟩
    apply e
    have := Nat.div_add_mod x m
    rw [e1, e2, Nat.mul_comm] at this
    exact this.symm
theorem columns_f (a : Option Addr) (n m c : Nat) (f : Nat → Nat → Int) (w : World) (h : RdM w a n (fun _ => m) f) (h0 : 0 < n) (hn : n ≤ 9000000000) :
    Calls Try.prog 142 #[.slice a n c] w fun e w' => e = .returned (.int .i64 m) ∧ w = w' := by
  obtain ⟨b, off, A, C, rfl, hb, hc⟩ := h.open h0
  have e0 : w.cell? ⟨b, off, none⟩ = some (.slice (A 0) m (C 0)) := by simpa using (hc 0 h0).1
  have hz : ((n : Int) == 0) = false := by simp; omega
  have HC := Lib.hid hc
  clear hc h
  generalize A 0 = a0 at e0
  generalize C 0 = c0 at e0
  go_enter Try.func142, Try.ntmps142
  go_wp2_with fail
  go_ret
  exact ⟨rfl, rfl⟩
theorem zeroMatrix_f (n m : Nat) (w : World) (hn : n ≤ 1000) (hm : m ≤ 1000) (hm0 : 0 < m) :
    Calls Try.prog 143 #[.int .i64 n, .int .i64 m] w fun e w' => e = .returned (.slice (some ⟨w.heap.size + 1, 0, none⟩) n n) ∧ MatZ w' 80 123 w.heap.size (w.heap.size + 1) n m (fun _ _ => 0) ∧ Below w.heap.size w w' ∧ w'.heap.size = w.heap.size + 2 := by
  have hb : n * m ≤ 1000 * 1000 := Nat.mul_le_mul hn hm
  have hc : (n : Int) * (m : Int) = ((n * m : Nat) : Int) := by rw [Int.natCast_mul]
  have hc0 : 0 ≤ (n : Int) * (m : Int) := by rw [hc]; omega
  have hc1 : (n : Int) * (m : Int) ≤ 1000000 := by rw [hc]; omega
  have hmk1 := run_make_row' (P := Try.prog) 80 123 (.int .i64 0) 8 Try.underlying80 infoNum rfl .i64 .i64 (n * m) (by omega) (by omega)
  have hmk2 := run_make_row' (P := Try.prog) 78 80 (.slice none 0 0) 24 Try.underlying78 infoNums rfl .i64 .i64 n (by omega) (by omega)
  rw [← hc] at hmk1
  have HB := Lib.hid hb
  have HC := Lib.hid hc
  clear hb hc
  go_enter Try.func143, Try.ntmps143
  go_wp2_with fail
  have Hmk1 := Lib.hid hmk1
  have Hmk2 := Lib.hid hmk2
  clear hmk1 hmk2 hc0 hc1
  go_loopw [18] (fun i wr => ∃ k : Nat, k ≤ n ∧ i = .int .i64 k ∧ RowB wr 80 (w.heap.size + 1) n (fun j => if j < k then .slice (some ⟨w.heap.size, j * m, none⟩) m m else .slice none 0 0) ∧ RowI wr 123 w.heap.size (n * m) (fun _ => 0) ∧ Below w.heap.size w wr ∧ wr.heap.size = w.heap.size + 2) (fun i _ => n - (intOf i).toNat)
  case atStart =>
    have hq := (RowB_of_rowIs (World.rowIs_made (w.alloc (.cells (madeCells #[.int .i64 0] (n * m)) 123)) (.slice none 0 0) n 80)).congr (g := fun j => if j < 0 then .slice (some ⟨w.heap.size, j * m, none⟩) m m else .slice none 0 0) (fun j _ => rfl)
    rw [World.size_alloc] at hq
    exact ⟨0, by omega, rfl, hq, (RowB_of_rowIs (World.rowIs_made w (.int .i64 0) (n * m) 123)).alloc _, (below_alloc _ _).alloc (by simp) _, by simp⟩
  case round =>
    obtain ⟨k, hk, rfl, hrow, hflat, hbl, hsz⟩ := hrel
    have Hrow := Lib.hid hrow
    have Hflat := Lib.hid hflat
    have Hbl := Lib.hid hbl
    have Hsz := Lib.hid hsz
    clear hrow hflat hbl hsz
    by_cases hlt : k < n
    · have hcd := RowB.cell Hrow.out hlt
      have hfd := RowB.frozen Hrow.out k
      obtain ⟨h1, _, _⟩ := cut_at hlt hm0
      have h2 : (k + 1) * m ≤ n * m := Nat.mul_le_mul_right m (by omega)
      have e3 : (k + 1) * m = k * m + m := Nat.succ_mul k m
      have h3 := HB.out
      have e1 : (k : Int) * (m : Int) = ((k * m : Nat) : Int) := by rw [Int.natCast_mul]
      have e2 : ((k : Int) + 1) * (m : Int) = ((k * m : Nat) : Int) + (m : Int) := by rw [Int.natCast_mul, Int.add_mul, Int.one_mul]
      rw [e3] at h2
      clear e3
      obtain ⟨N, hN⟩ : ∃ N, N = n * m := ⟨_, rfl⟩
      obtain ⟨s, hs⟩ : ∃ s, s = k * m := ⟨_, rfl⟩
      rw [← hN] at h1 h2 h3 ⊢
      rw [← hs] at h1 h2 e1 e2
      have HN := Lib.hid hN
      have HS := Lib.hid hs
      clear hN hs
      have l1 : s + m ≤ 1000000 := by omega
      have l2 : 0 < m := hm0
      go_wp2_with fail
      refine ⟨⟨k + 1, by omega, by go_num, (RowB.set Hrow.out k _).congr (fun j hj => ?_), by rw [HN.out]; exact RowB.setOther Hflat.out (a := ⟨w.heap.size + 1, k, none⟩) (by simp) _, Hbl.out.setCell (by simp) _, by simpa using Hsz.out⟩, by simp [intOf]; omega⟩
      by_cases e : j = k
      · rw [if_pos e, if_pos (by omega), e, HS.out]
      · rw [if_neg e]
        by_cases e' : j < k
        · rw [if_pos e', if_pos (by omega)]
        · rw [if_neg e', if_neg (by omega)]
    · obtain rfl : k = n := by omega
      go_wp2_with fail
      go_ret
      exact ⟨rfl, ⟨Hrow.out.congr (fun j hj => by rw [if_pos hj]), Hflat.out⟩, Hbl.out, Hsz.out⟩
/-- what a call returns whose table is cut from one block -/
def RetZ (w : World) (n m : Nat) (f : Nat → Nat → Int) (e : Ending) (w' : World) : Prop :=
  ∃ b0 b, e = .returned (.slice (some ⟨b, 0, none⟩) n n) ∧ MatZ w' 80 123 b0 b n m f ∧ Below w.heap.size w w'
theorem transposed_f (a : Option Addr) (n m c : Nat) (f : Nat → Nat → Int) (w : World) (h : RdM w a n (fun _ => m) f) (h0 : 0 < n) (hn : n ≤ 1000) (hm : m ≤ 1000) :
    Calls Try.prog 167 #[.slice a n c] w (RetZ w m n (fun i j => f j i)) := by
  have HR := Lib.hid h
  obtain ⟨b, off, A, C, rfl, hb, hc⟩ := h.open h0
  have HC := Lib.hid hc
  clear hc h
  go_enter Try.func167, Try.ntmps167
  go_wp2_with fail
  refine (columns_f _ n m _ f _ HR.out h0 (by omega)).mono ?_
  rintro e w1 ⟨rfl, rfl⟩
  go_wp2_with fail
  refine (zeroMatrix_f m n _ hm hn h0).mono ?_
  rintro e w1 ⟨rfl, hz, hb1, hs1⟩
  have HZ := Lib.hid hz
  have HB1 := Lib.hid hb1
  have HS1 := Lib.hid hs1
  clear hz hb1 hs1
  go_wp2_with fail
  go_loopw [15] (fun i wr => ∃ k : Nat, k ≤ n ∧ i = .int .i64 k ∧ MatZ wr 80 123 w.heap.size (w.heap.size + 1) m n (fun i j => if j < k then f j i else 0) ∧ Below w.heap.size w wr ∧ wr.heap.size = w.heap.size + 2) (fun i _ => n - (intOf i).toNat)
  case atStart => exact ⟨0, by omega, rfl, HZ.out, HB1.out, HS1.out⟩
  case round =>
    obtain ⟨k, hk, rfl, hm1, hbl, hsz⟩ := hrel
    obtain ⟨wo, hwo⟩ : ∃ x, x = wr := ⟨_, rfl⟩
    subst hwo
    have HM := Lib.hid hm1
    have HB := Lib.hid hbl
    have HS := Lib.hid hsz
    clear hm1 hbl hsz
    by_cases hlt : k < n
    · have e1 : wo.cell? ⟨b, off + k, none⟩ = some (.slice (A k) m (C k)) := by
        rw [HB.out.cell (p := ⟨b, off + k, none⟩) hb]; exact (HC.out k hlt).1
      have Hrow := Lib.hid (HC.out k hlt).2
      obtain ⟨ak, hak⟩ : ∃ x, x = A k := ⟨_, rfl⟩
      rw [← hak] at e1 Hrow
      have HA := Lib.hid hak
      clear hak
      generalize C k = ck at e1
      go_wp2_with fail
      go_loopw [22] (fun i wr => ∃ l : Nat, l ≤ m ∧ i = .int .i64 l ∧ MatZ wr 80 123 w.heap.size (w.heap.size + 1) m n (fun i j => if j < k ∨ (j = k ∧ i < l) then f j i else 0) ∧ Below w.heap.size w wr ∧ wr.heap.size = w.heap.size + 2) (fun i _ => m - (intOf i).toNat)
      case atStart =>
        refine ⟨0, by omega, rfl, ⟨HM.out.outer, HM.out.flat.congr fun x hx => ?_⟩, HB.out, HS.out⟩
        by_cases e : x % n < k
        · rw [if_pos e, if_pos (Or.inl e)]
        · rw [if_neg e, if_neg (fun h => h.elim e (fun h => absurd h.2 (Nat.not_lt_zero _)))]
      case round =>
        obtain ⟨l, hl, rfl, hm1, hbl, hsz⟩ := hrel
        have HM2 := Lib.hid hm1
        have HB2 := Lib.hid hbl
        have HS2 := Lib.hid hsz
        clear hm1 hbl hsz
        by_cases hlt2 : l < m
        · obtain ⟨b3, o3, rfl, hb3, hc3⟩ := Hrow.out.open (by omega)
          have e2 : wr.cell? ⟨b3, o3 + l, none⟩ = some (.int .i64 (f k l)) := by
            rw [HB2.out.cell (p := ⟨b3, o3 + l, none⟩) hb3]; exact hc3 l hlt2
          have HC3 := Lib.hid hc3
          clear hc3
          have e3 := RowB.cell HM2.out.outer hlt2
          have e4 := HM2.out.cellAt hlt2 hlt
          have e5 := RowB.frozen (show RowB wr 123 w.heap.size (m * n) _ from HM2.out.flat) (l * n + k)
          obtain ⟨s, hs⟩ : ∃ s, s = l * n := ⟨_, rfl⟩
          rw [← hs] at e3 e4 e5
          have HSs := Lib.hid hs
          clear hs
          obtain ⟨x, hx⟩ : ∃ x, x = f k l := ⟨_, rfl⟩
          rw [← hx] at e2
          have HX := Lib.hid hx
          clear hx
          obtain ⟨y, hy⟩ : ∃ y, y = (if k < k ∨ (k = k ∧ l < l) then f k l else 0) := ⟨_, rfl⟩
          rw [← hy] at e4
          clear hy
          go_wp2_with fail
          refine ⟨⟨l + 1, by omega, by go_num, ?_, HB2.out.setCell (Nat.le_refl _) _, by simpa using HS2.out⟩, by simp [intOf]; omega⟩
          have hq := HM2.out.set (by decide) hlt2 hlt x
          rw [← HSs.out] at hq
          refine ⟨hq.outer, hq.flat.congr fun z hz => ?_⟩
          rw [HX.out]
          by_cases e1 : z % n = k
          · by_cases e2 : z / n = l
            · rw [if_pos ⟨e2, e1⟩, if_pos (by omega), e1, e2]
            · rw [if_neg (fun h => e2 h.1)]
              by_cases e3 : z % n < k ∨ z % n = k ∧ z / n < l
              · rw [if_pos e3, if_pos (by omega)]
              · rw [if_neg e3, if_neg (by omega)]
          · rw [if_neg (fun h => e1 h.2)]
            by_cases e3 : z % n < k ∨ z % n = k ∧ z / n < l
            · rw [if_pos e3, if_pos (by omega)]
            · rw [if_neg e3, if_neg (by omega)]
        · obtain rfl : l = m := by omega
          go_wp2_with fail
          refine ⟨⟨k + 1, by omega, by go_num, ⟨HM2.out.outer, HM2.out.flat.congr fun x hx => ?_⟩, HB2.out, HS2.out⟩, by simp [intOf]; omega⟩
          have hx1 : x / n < l := Nat.div_lt_of_lt_mul (by rw [Nat.mul_comm]; exact hx)
          have key : (x % n < k ∨ x % n = k ∧ x / n < l) ↔ x % n < k + 1 := by
            generalize x / n = y at *
            generalize x % n = z at *
            omega
          by_cases e : x % n < k + 1
          · rw [if_pos e, if_pos (key.2 e)]
          · rw [if_neg e, if_neg (fun h => e (key.1 h))]
    · obtain rfl : k = n := by omega
      go_wp2_with fail
      go_ret
      refine ⟨_, _, rfl, ⟨HM.out.outer, HM.out.flat.congr fun x hx => ?_⟩, HB.out⟩
      rw [if_pos (Nat.mod_lt _ h0)]
end Go.Proofs.Ytaffiohdjkbkkaa
