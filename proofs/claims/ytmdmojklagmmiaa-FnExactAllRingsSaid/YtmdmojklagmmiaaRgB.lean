/- Cubes: the test of the program; how a cube is read. -/
import Derived.Test.YtmdmojklagmmiaaRgA
namespace Go.Proofs.Ytmdmojklagmmiaa
open Go.RowKit
set_option linter.unusedSimpArgs false
/-- a cube as it lies in memory -/
structure CubeAt (w : World) (b off n : Nat) (B O C : Nat → Nat) (B2 O2 C2 : Nat → Nat → Nat) (f : Nat → Nat → Nat → Int) : Prop where
  lt : b < w.heap.size
  row : ∀ i, i < n → w.cell? ⟨b, off + i, none⟩ = some (.slice (some ⟨B i, O i, none⟩) n (C i)) ∧ B i < w.heap.size
  col : ∀ i j, i < n → j < n → w.cell? ⟨B i, O i + j, none⟩ = some (.slice (some ⟨B2 i j, O2 i j, none⟩) n (C2 i j)) ∧ B2 i j < w.heap.size
  num : ∀ i j k, i < n → j < n → k < n → w.cell? ⟨B2 i j, O2 i j + k, none⟩ = some (.int .i64 (f i j k))
theorem CubeAt.below {w w' : World} {b off n : Nat} {B O C : Nat → Nat} {B2 O2 C2 : Nat → Nat → Nat} {f : Nat → Nat → Nat → Int} (h : CubeAt w b off n B O C B2 O2 C2 f) (hb : Below w.heap.size w w') : CubeAt w' b off n B O C B2 O2 C2 f :=
  ⟨Nat.lt_of_lt_of_le h.lt hb.size, fun i hi => ⟨by rw [hb.cell (p := ⟨b, off + i, none⟩) h.lt]; exact (h.row i hi).1, Nat.lt_of_lt_of_le (h.row i hi).2 hb.size⟩,
    fun i j hi hj => ⟨by rw [hb.cell (p := ⟨B i, O i + j, none⟩) (h.row i hi).2]; exact (h.col i j hi hj).1, Nat.lt_of_lt_of_le (h.col i j hi hj).2 hb.size⟩,
    fun i j k hi hj hk => by rw [hb.cell (p := ⟨B2 i j, O2 i j + k, none⟩) (h.col i j hi hj).2]; exact h.num i j k hi hj hk⟩
theorem CubeAt.rdRow {w : World} {b off n : Nat} {B O C : Nat → Nat} {B2 O2 C2 : Nat → Nat → Nat} {f : Nat → Nat → Nat → Int} (h : CubeAt w b off n B O C B2 O2 C2 f) {i j : Nat} (hi : i < n) (hj : j < n) : RdR w (some ⟨B2 i j, O2 i j, none⟩) n (f i j) :=
  Or.inr ⟨_, _, rfl, (h.col i j hi hj).2, fun k hk => h.num i j k hi hj hk⟩
theorem CubeAt.rd {w : World} {b off n : Nat} {B O C : Nat → Nat} {B2 O2 C2 : Nat → Nat → Nat} {f : Nat → Nat → Nat → Int} (h : CubeAt w b off n B O C B2 O2 C2 f) : RdT w (some ⟨b, off, none⟩) n (fun _ => n) (fun _ _ => n) f :=
  Or.inr ⟨b, off, fun i => some ⟨B i, O i, none⟩, C, rfl, h.lt, fun i hi => ⟨(h.row i hi).1, Or.inr ⟨B i, O i, fun j => some ⟨B2 i j, O2 i j, none⟩, C2 i, rfl, (h.row i hi).2, fun j hj => ⟨(h.col i j hi hj).1, h.rdRow hi hj⟩⟩⟩⟩
theorem cubeAt_of {w : World} {a : Option Addr} {n : Nat} {f : Nat → Nat → Nat → Int} (h : RdT w a n (fun _ => n) (fun _ _ => n) f) (h0 : 0 < n) : ∃ (b off : Nat) (B O C : Nat → Nat) (B2 O2 C2 : Nat → Nat → Nat), a = some ⟨b, off, none⟩ ∧ CubeAt w b off n B O C B2 O2 C2 f := by
  obtain ⟨b, off, A, C, rfl, hb, hc⟩ := h.open h0
  have r1 : ∀ i, ∃ x : Nat × Nat × (Nat → Option Addr) × (Nat → Nat), i < n → A i = some ⟨x.1, x.2.1, none⟩ ∧ x.1 < w.heap.size ∧ ∀ j, j < n → w.cell? ⟨x.1, x.2.1 + j, none⟩ = some (.slice (x.2.2.1 j) n (x.2.2.2 j)) ∧ RdR w (x.2.2.1 j) n (f i j) := by
    intro i
    by_cases hi : i < n
    · obtain ⟨b1, o1, A1, C1, e, l, c⟩ := (hc i hi).2.open h0
      exact ⟨(b1, o1, A1, C1), fun _ => ⟨e, l, c⟩⟩
    · exact ⟨(0, 0, fun _ => none, fun _ => 0), fun h => absurd h hi⟩
  obtain ⟨X, hX⟩ := Classical.axiomOfChoice r1
  have r2 : ∀ i, ∃ y : (Nat → Nat) × (Nat → Nat), i < n → ∀ j, j < n → (X i).2.2.1 j = some ⟨y.1 j, y.2 j, none⟩ ∧ y.1 j < w.heap.size ∧ ∀ k, k < n → w.cell? ⟨y.1 j, y.2 j + k, none⟩ = some (.int .i64 (f i j k)) := by
    intro i
    by_cases hi : i < n
    · have r3 : ∀ j, ∃ z : Nat × Nat, j < n → (X i).2.2.1 j = some ⟨z.1, z.2, none⟩ ∧ z.1 < w.heap.size ∧ ∀ k, k < n → w.cell? ⟨z.1, z.2 + k, none⟩ = some (.int .i64 (f i j k)) := by
        intro j
        by_cases hj : j < n
        · obtain ⟨b2, o2, e, l, c⟩ := ((hX i hi).2.2 j hj).2.open h0
          exact ⟨(b2, o2), fun _ => ⟨e, l, c⟩⟩
        · exact ⟨(0, 0), fun h => absurd h hj⟩
      obtain ⟨Z, hZ⟩ := Classical.axiomOfChoice r3
      exact ⟨(fun j => (Z j).1, fun j => (Z j).2), fun _ j hj => hZ j hj⟩
    · exact ⟨(fun _ => 0, fun _ => 0), fun h => absurd h hi⟩
  obtain ⟨Y, hY⟩ := Classical.axiomOfChoice r2
  refine ⟨b, off, fun i => (X i).1, fun i => (X i).2.1, C, fun i j => (Y i).1 j, fun i j => (Y i).2 j, fun i j => (X i).2.2.2 j, rfl, hb, fun i hi => ⟨?_, (hX i hi).2.1⟩, fun i j hi hj => ⟨?_, (hY i hi j hj).2.1⟩, fun i j k hi hj hk => (hY i hi j hj).2.2 k hk⟩
  · rw [(hc i hi).1, (hX i hi).1]
  · rw [((hX i hi).2.2 j hj).1, (hY i hi j hj).1]
theorem isCube_f (a : Option Addr) (n c : Nat) (M : Nat → Nat) (L : Nat → Nat → Nat) (f : Nat → Nat → Nat → Int) (w : World) (h : RdT w a n M L f) (hn : n ≤ 9000000000) (hM : ∀ i, i < n → M i ≤ 9000000000) (hL : ∀ i, i < n → ∀ j, j < M i → L i j ≤ 9000000000) :
    Calls Try.prog 57 #[.agg #[.slice a n c]] w fun e w' => e = .returned (.bool (cubB n M L f)) ∧ Below w.heap.size w w' := by
  have H := Lib.hid h
  have HM := Lib.hid hM
  have HL := Lib.hid hL
  clear h hM hL
  by_cases h1 : n < 1
  · have hd : decide ((n : Int) < 1) = true := by simp; omega
    have HF := Lib.hid (cubB_size (M := M) (L := L) (f := f) (Or.inl h1))
    go_enter Try.func57, Try.ntmps57
    go_wp2_with fail
    go_ret
    exact ⟨ret_bool HF.out.symm, below_alloc _ _⟩
  have hd : decide ((n : Int) < 1) = false := by simp; omega
  by_cases h2 : 16 < n
  · have hd2 : decide (16 < (n : Int)) = true := by simp; omega
    have HF := Lib.hid (cubB_size (M := M) (L := L) (f := f) (Or.inr h2))
    go_enter Try.func57, Try.ntmps57
    go_wp2_with fail
    go_ret
    exact ⟨ret_bool HF.out.symm, below_alloc _ _⟩
  have hd2 : decide (16 < (n : Int)) = false := by simp; omega
  go_enter Try.func57, Try.ntmps57
  go_wp2_with fail
  go_loopw [20] (fun i wr => ∃ k : Nat, k ≤ n ∧ i = .int .i64 k ∧ (∀ i, i < k → M i = n ∧ ∀ j, j < n → L i j = n ∧ inZ 1000 (f i j) n = true) ∧ Below w.heap.size w wr) (fun i _ => n - (intOf i).toNat)
  case atStart => exact ⟨0, by omega, rfl, fun i hi => absurd hi (by omega), below_alloc _ _⟩
  case round =>
    obtain ⟨k, hk, rfl, hall, hbl⟩ := hrel
    obtain ⟨wo, hwo⟩ : ∃ x, x = wr := ⟨_, rfl⟩
    subst hwo
    have HA := Lib.hid hall
    have HB := Lib.hid hbl
    clear hall hbl
    by_cases hlt : k < n
    · obtain ⟨b, off, A, C, rfl, hb, hc⟩ := H.out.open (by omega)
      have e1 : wo.cell? ⟨b, off + k, none⟩ = some (.slice (A k) (M k) (C k)) := by
        rw [HB.out.cell (p := ⟨b, off + k, none⟩) hb]; exact (hc k hlt).1
      have HR := Lib.hid ((hc k hlt).2.below HB.out (Nat.le_refl _))
      have hmk := HM.out k hlt
      have HLk := Lib.hid (HL.out k hlt)
      clear hc
      by_cases hm : M k = n
      · have hd3 : ((n : Int) != (n : Int)) = false := by simp
        have HMk := Lib.hid hm
        rw [hm] at e1 HR HLk
        clear hm hmk
        generalize A k = ak at *
        generalize C k = ck at *
        go_wp2_with fail
        go_loopw [30] (fun i wr => ∃ j : Nat, j ≤ n ∧ i = .int .i64 j ∧ (∀ j', j' < j → L k j' = n ∧ inZ 1000 (f k j') n = true) ∧ Below wo.heap.size wo wr) (fun i _ => n - (intOf i).toNat)
        case atStart => exact ⟨0, by omega, rfl, fun i hi => absurd hi (by omega), Below.refl _ _⟩
        case round =>
          obtain ⟨j, hj, rfl, hall2, hbl2⟩ := hrel
          have HA2 := Lib.hid hall2
          have HB2 := Lib.hid hbl2
          clear hall2 hbl2
          by_cases hjn : j < n
          · obtain ⟨b2, off2, A2, C2, rfl, hb2, hc2⟩ := HR.out.open (by omega)
            have e2 : wr.cell? ⟨b2, off2 + j, none⟩ = some (.slice (A2 j) (L k j) (C2 j)) := by
              rw [HB2.out.cell (p := ⟨b2, off2 + j, none⟩) hb2]; exact (hc2 j hjn).1
            have HR2 := Lib.hid ((hc2 j hjn).2.below HB2.out (Nat.le_refl _))
            have hlk := HLk.out j hjn
            clear hc2
            cases hlw : lwB (L k j) n 1000 (f k j)
            · have HF := Lib.hid (cubB_list (M := M) (L := L) (f := f) hlt hjn (by
                by_cases e : L k j = n
                · right; simpa [lwB, e] using hlw
                · exact Or.inl e))
              have HW := Lib.hid (fun u hu => isListWithin_f (A2 j) (L k j) (C2 j) n (f k j) 1000 u hu hlk)
              rw [hlw] at HW
              clear hlw
              generalize A2 j = a2 at *
              generalize C2 j = c2 at *
              generalize L k j = l2 at *
              go_wp2_with fail
              refine (HW.out _ HR2.out).mono ?_
              rintro e w1 ⟨rfl, hb3⟩
              have HB3 := Lib.hid (HB.out.trans ((HB2.out.trans (hb3.mono HB2.out.size)).mono HB.out.size))
              clear hb3
              go_wp2_with fail
              go_ret
              exact ⟨ret_bool HF.out.symm, HB3.out⟩
            · have HN := Lib.hid (show ∀ j', j' < j + 1 → L k j' = n ∧ inZ 1000 (f k j') n = true from fun j' hj' => by
                by_cases e : j' = j
                · rw [e]; simpa [lwB] using hlw
                · exact HA2.out j' (by omega))
              have HW := Lib.hid (fun u hu => isListWithin_f (A2 j) (L k j) (C2 j) n (f k j) 1000 u hu hlk)
              rw [hlw] at HW
              clear hlw
              generalize A2 j = a2 at *
              generalize C2 j = c2 at *
              generalize L k j = l2 at *
              go_wp2_with fail
              refine (HW.out _ HR2.out).mono ?_
              rintro e w1 ⟨rfl, hb3⟩
              have HB3 := Lib.hid (HB2.out.trans (hb3.mono HB2.out.size))
              clear hb3
              go_wp2_with fail
              exact ⟨⟨j + 1, by omega, by go_num, HN.out, HB3.out⟩, by simp [intOf]; omega⟩
          · obtain rfl : j = n := by omega
            have HN := Lib.hid (show ∀ i, i < k + 1 → M i = j ∧ ∀ j', j' < j → L i j' = j ∧ inZ 1000 (f i j') j = true from fun i hi => by
              by_cases e : i = k
              · rw [e]; exact ⟨HMk.out, HA2.out⟩
              · exact HA.out i (by omega))
            have HB3 := Lib.hid (HB.out.trans (HB2.out.mono HB.out.size))
            go_wp2_with fail
            exact ⟨⟨k + 1, by omega, by go_num, HN.out, HB3.out⟩, by simp [intOf]; omega⟩
      · have hd3 : ((M k : Int) != (n : Int)) = true := by simp; omega
        have HF := Lib.hid (cubB_row (M := M) (L := L) (f := f) hlt hm)
        clear hm
        generalize A k = ak at *
        generalize C k = ck at *
        generalize M k = mk at *
        go_wp2_with fail
        go_ret
        exact ⟨ret_bool HF.out.symm, HB.out⟩
    · obtain rfl : k = n := by omega
      have HF := Lib.hid (cubB_mk (M := M) (L := L) (f := f) (show 1 ≤ k by omega) (show k ≤ 16 by omega) (fun i hi => ⟨(HA.out i hi).1, fun j hj => ⟨((HA.out i hi).2 j hj).1, inZ_t ((HA.out i hi).2 j hj).2⟩⟩))
      go_wp2_with fail
      go_ret
      exact ⟨ret_bool HF.out.symm, HB.out⟩
end Go.Proofs.Ytmdmojklagmmiaa
