/- Merged: EoE, EoF, EoG, EoH, EoI, EoJ, EoK. -/
import Derived.Test.YtmdmojklagmmiaaEoAD
import Derived.Deep.RegionHeld3
import Derived.Laws.CopyRow
import Derived.Lib.SliceRun
import Derived.BigFrame
import Derived.BigQuiet
/- AllRings of the program: what is not its own least form is left out. -/
namespace Go.Proofs.Ytmdmojklagmmiaa
open Go.RowKit
set_option linter.unusedSimpArgs false
set_option linter.unusedVariables false
/-- whether a table is its own least form -/
def ownL (n : Nat) (F : Nat → Nat → Nat → Int) : Prop := ∀ q, q ∈ per n → ¬ ltT n (ren F q) F
open Classical in
noncomputable def ownB (n : Nat) (F : Nat → Nat → Nat → Int) : Bool := decide (ownL n F)
open Classical in
theorem ownB_t {n : Nat} {F : Nat → Nat → Nat → Int} : ownB n F = true ↔ ownL n F := by unfold ownB; exact ⟨of_decide_eq_true, decide_eq_true⟩
theorem ownL_least {n : Nat} {F : Nat → Nat → Nat → Int} (h1 : 1 ≤ n) (h7 : n ≤ 7) {p : List Nat} (hp : isLeast n F p) : eqT n F (ren F p) ↔ ownL n F := by
  constructor
  · intro e q hq h
    exact hp.2 q hq (ltT_cong h (fun _ _ _ _ _ _ => rfl) e)
  · intro h
    exact ltT_tri (fun h2 => hp.2 (idP n) (idP_mem h1 h7) (ltT_cong h2 (ren_id n F) (fun _ _ _ _ _ _ => rfl))) (h p hp.1)
set_option maxRecDepth 100000 in
set_option maxHeartbeats 8000000 in
theorem allRings1_f (b n c : Nat) (B O C : Nat → Nat) (B2 O2 C2 : Nat → Nat → Nat) (F : Nat → Nat → Nat → Int) (w : World) (h : CubeAt w b 0 n B O C B2 O2 C2 F) (h1 : 1 ≤ n) (h7 : n ≤ 7) :
    Calls Try.prog 46 #[.agg #[.slice (some ⟨b, 0, none⟩) n c]] w fun e w' => e = .returned (.bool (!ownB n F)) ∧ Below w.heap.size w w' := by
  have H := Lib.hid h
  clear h
  obtain ⟨W, hW⟩ : ∃ W, W = w.alloc (.cells #[.slice (some ⟨b, 0, none⟩) n c] 29) := ⟨_, rfl⟩
  have HWe := Lib.hid hW
  have HW0 := Lib.hid (show Below w.heap.size w W by rw [hW]; exact below_alloc w _)
  have HWs := Lib.hid (show W.heap.size = w.heap.size + 1 by rw [hW]; simp)
  have KW := Lib.hid (show ∀ u, Below W.heap.size W u → u.cell? ⟨w.heap.size, 0, none⟩ = some (.slice (some ⟨b, 0, none⟩) n c) by
    intro u hu
    rw [hu.cell (p := ⟨w.heap.size, 0, none⟩) (by rw [hW]; simp), hW]; exact cell_box _ _ _)
  clear hW
  have HL := Lib.hid (fun u (hu : Below w.heap.size w u) => least_f b 0 n c B O C B2 O2 C2 F u (H.out.below hu) (by omega) h7)
  go_enter Try.func46, Try.ntmps46
  go_wp2_with fail
  rw [← HWe.out]
  go_region_held3 (fun u => u.cell? ⟨w.heap.size, 0, none⟩ = some (.slice (some ⟨b, 0, none⟩) n c)) (first | exact KW.out _ HB2.out | exact KW.out _ HB1.out | exact KW.out _ (Below.refl _ _).drew | exact KW.out _ (Below.refl _ _)) (first | (have q9 := HB1.out; clear q9; go_at_call 47; refine (compare_r b 0 c B O C B2 O2 C2 F b1 0 n B3 (fun _ => 0) C3 G3 (fun _ _ => 0) CC3 (ren F p) n _ (H.out.below (HW0.out.trans (HB1.out.mono HW0.out.size))) (cubAt HC1.out) (by omega)).mono ?_; rintro e w3 ⟨rfl, hw3⟩; have HB2 := Lib.hid (show Below W.heap.size W w3 by rw [hw3]; exact HB1.out.trans (((below_alloc _ _).alloc (by simp) _).mono HB1.out.size)); clear hw3) | (go_at_call 48; refine (HL.out _ (by first | exact HW0.out.drew | exact HW0.out)).mono ?_; rintro e w2 ⟨b1, p, rfl, hp, ⟨C3, B3, CC3, G3, hc1⟩, hb1⟩; have HP := Lib.hid hp; have HC1 := Lib.hid hc1; have HB1 := Lib.hid (show Below W.heap.size W w2 from ⟨hb1.os, hb1.tape, hb1.output, hb1.size, hb1.block⟩); clear hp hc1 hb1))
  all_goals
    have hv : (cmpT n F (ren F p) != 0) = !ownB n F := by
      have h1 := ownL_least h1 h7 HP.out
      have h2 := cmpT_zero (n := n) (F := F) (G := ren F p)
      by_cases e : ownL n F
      · rw [ownB_t.2 e, h2.2 (h1.2 e)]; rfl
      · have h3 : ownB n F = false := by cases hb : ownB n F; rfl; exact absurd (ownB_t.1 hb) e
        rw [h3]
        have h4 : cmpT n F (ren F p) ≠ 0 := fun h => e (h1.1 (h2.1 h))
        simpa using h4
    have HV := Lib.hid hv
    clear hv
    go_wp2_with fail
    go_ret
    exact ⟨ret_bool HV.out, HW0.out.trans (HB2.out.mono HW0.out.size)⟩
end Go.Proofs.Ytmdmojklagmmiaa
/- AllRings of the program: the list without what is left out. -/
namespace Go.Proofs.Ytmdmojklagmmiaa
open Go.RowKit
set_option linter.unusedSimpArgs false
set_option linter.unusedVariables false
def clR (A : Nat → Nat × Nat) (n t : Nat) : Value := .slice (some ⟨(A t).1, 0, none⟩) n (A t).2
/-- what is kept of the first j rings -/
noncomputable def kpL (n : Nat) (Z : List (Nat → Nat → Nat → Int)) (j : Nat) : List Nat := (List.range j).filter fun t => ownB n (Z.getD t zF)
theorem kpL_succ (n : Nat) (Z : List (Nat → Nat → Nat → Int)) (j : Nat) : kpL n Z (j + 1) = kpL n Z j ++ (if ownB n (Z.getD j zF) = true then [j] else []) := by
  unfold kpL; rw [List.range_succ, List.filter_append]
  congr 1
  by_cases h : ownB n (Z.getD j zF) = true
  · rw [if_pos h]; simp only [List.filter_cons, h, List.filter_nil, if_true]
  · rw [if_neg h]; simp only [List.filter_cons, h, List.filter_nil]; rfl
theorem kpL_all {n : Nat} {Z : List (Nat → Nat → Nat → Int)} : ∀ {j : Nat}, (∀ t, t < j → ownB n (Z.getD t zF) = true) → kpL n Z j = List.range j
  | 0, _ => rfl
  | j + 1, h => by rw [kpL_succ, kpL_all (fun t ht => h t (by omega)), if_pos (h j (by omega)), List.range_succ]
theorem kpL_le (n : Nat) (Z : List (Nat → Nat → Nat → Int)) (j : Nat) : (kpL n Z j).length ≤ j := by
  unfold kpL
  have := List.length_filter_le (fun t => ownB n (Z.getD t zF)) (List.range j)
  simpa using this
theorem LsR.cell {base lim n g k : Nat} {w : World} {X : List (Nat → Nat → Nat → Int)} {A : Nat → Nat × Nat} {Lo Hi : Nat → Nat} (h : LsR base lim w (.slice (some ⟨g, 0, none⟩) X.length k) n X A Lo Hi) : RowB w 29 g X.length (clR A n) :=
  (RowB_of_own h.own).congr fun i hi => by simp [rgL, clR, List.getD, hi]
def ixB (P : Nat → Bool) (N : Nat) : Int := if ff P N < N then (ff P N : Nat) else -1
set_option maxHeartbeats 4000000 in
theorem indexFunc_f (base lim g k n : Nat) (w : World) (Z : List (Nat → Nat → Nat → Int)) (A : Nat → Nat × Nat) (Lo Hi : Nat → Nat) (h : LsR base lim w (.slice (some ⟨g, 0, none⟩) Z.length k) n Z A Lo Hi) (h1 : 1 ≤ n) (h7 : n ≤ 7) (hZ : Z.length ≤ 1000000000) :
    Calls Try.prog 75 #[.slice (some ⟨g, 0, none⟩) Z.length k, .func (.func 46) #[] #[]] w fun e w' => e = .returned (.int .i64 (ixB (fun t => !ownB n (Z.getD t zF)) Z.length)) ∧ Below w.heap.size w w' := by
  have H := Lib.hid h
  have HX := Lib.hid (show ∀ t, t < Z.length → (!ownB n (Z.getD t zF)) = true → (∀ s, s < t → (!ownB n (Z.getD s zF)) = false) → ixB (fun t => !ownB n (Z.getD t zF)) Z.length = (t : Nat) from fun t ht e hs => by
    unfold ixB; rw [ff_hit (P := fun t => !ownB n (Z.getD t zF)) ht e hs, if_pos ht])
  have HY := Lib.hid (show (∀ s, s < Z.length → (!ownB n (Z.getD s zF)) = false) → ixB (fun t => !ownB n (Z.getD t zF)) Z.length = -1 from fun hs => by
    unfold ixB; rw [ff_none (P := fun t => !ownB n (Z.getD t zF)) hs, if_neg (by omega)])
  have HC := Lib.hid (fun t (ht : t < Z.length) (u : World) (hu : Below w.heap.size w u) => show Calls Try.prog 46 #[.agg #[.slice (some ⟨(A t).1, 0, none⟩) n (A t).2]] u fun e w' => e = .returned (.bool (!ownB n (Z.getD t zF))) ∧ Below u.heap.size u w' by
    obtain ⟨C, B, CC, G, hc⟩ := (h.cub t ht).2.2
    exact allRings1_f (A t).1 n (A t).2 B (fun _ => 0) C G (fun _ _ => 0) CC (Z.getD t zF) u ((cubAt hc).below hu) h1 h7)
  have HR := Lib.hid h.cell
  obtain ⟨r, hr⟩ : ∃ r, r = ixB (fun t => !ownB n (Z.getD t zF)) Z.length := ⟨_, rfl⟩
  rw [← hr] at HX HY ⊢
  clear h hr
  obtain ⟨N, hN⟩ : ∃ N, N = Z.length := ⟨_, rfl⟩
  rw [← hN] at HX HY HC HR hZ ⊢
  clear hN H
  go_enter Try.func75, Try.ntmps75
  go_wp2_with fail
  go_loopw [8] (fun x wr => ∃ t : Nat, t ≤ N ∧ x = .int .i64 t ∧ (∀ s, s < t → (!ownB n (Z.getD s zF)) = false) ∧ Below w.heap.size w wr) (fun x _ => N - (intOf x).toNat)
  case atStart => exact ⟨0, by omega, rfl, fun s hs => absurd hs (by omega), Below.refl _ _⟩
  case round =>
    obtain ⟨t, ht, rfl, hs, hb⟩ := hrel
    have HS := Lib.hid hs
    have HB := Lib.hid hb
    clear hs hb
    by_cases htN : t < N
    · have e1 : wr.cell? ⟨g, t, none⟩ = some (.slice (some ⟨(A t).1, 0, none⟩) n (A t).2) := RowB.cell (RowB.below HR.out HB.out (RowB.lt HR.out)) htN
      have HCt := Lib.hid (HC.out t htN wr HB.out)
      have HXt := Lib.hid (HX.out t htN)
      obtain ⟨o, ho⟩ : ∃ o, o = ownB n (Z.getD t zF) := ⟨_, rfl⟩
      rw [← ho] at HCt HXt
      have HO := Lib.hid ho
      clear ho
      generalize (A t).1 = p1 at *
      generalize (A t).2 = p2 at *
      cases o
      · have HV := Lib.hid (HXt.out rfl HS.out)
        go_wp2_with fail
        refine HCt.out.mono ?_
        rintro e w2 ⟨rfl, hb2⟩
        have HB2 := Lib.hid (HB.out.trans (hb2.mono HB.out.size))
        clear hb2 HCt
        go_wp2_with fail
        go_ret
        exact ⟨ret_int HV.out.symm, HB2.out⟩
      · go_wp2_with fail
        refine HCt.out.mono ?_
        rintro e w2 ⟨rfl, hb2⟩
        have HB2 := Lib.hid (HB.out.trans (hb2.mono HB.out.size))
        clear hb2 HCt
        go_wp2_with fail
        refine ⟨⟨t + 1, by omega, by go_num, fun s hs => ?_, HB2.out⟩, by simp [intOf]; omega⟩
        by_cases e : s = t
        · rw [e, ← HO.out]; rfl
        · exact HS.out s (by omega)
    · have HV := Lib.hid (HY.out (fun s hs => HS.out s (by omega)))
      go_wp2_with fail
      go_ret
      exact ⟨ret_int HV.out.symm, HB.out⟩
end Go.Proofs.Ytmdmojklagmmiaa
/- AllRings of the program: slices.DeleteFunc. -/
namespace Go.Proofs.Ytmdmojklagmmiaa
open Go.RowKit
set_option linter.unusedSimpArgs false
set_option linter.unusedVariables false
theorem clear_one {P : Program} (w : World) (t e ty : TypeId) (z z1 : Value) (ht : P.underlying t = some (.slice e)) (hv : ∀ w, (zeroValue e).run P w = .ok z w) (hz : z.cells = #[z1]) (h1 : z1.oneCell' = true) (b o n c : Nat) (hn : 0 < n)
    (hc : ∀ j, j < n → (w.cell? ⟨b, o + j, none⟩).isSome = true) (hf : ∀ j, j < n → w.frozen? ⟨b, o + j, none⟩ = false) :
    (Builtin.clear_ #[t] ty #[.slice (some ⟨b, o, none⟩) n c]).run P w = .ok (.tuple #[]) (w.setCells b o (List.replicate n z1)) := by
  have hzc : (Builtin.zeroCells z.cells n).toList = List.replicate n z1 := by
    rw [hz]
    simp [Builtin.zeroCells]
    apply List.ext_getElem
    · simp
    · intro i h1 h2
      simp [Nat.mod_one]
  have hst := run_storeCells_cells (P := P) b o (List.replicate n z1) 0 w (by simpa using hc) (by simpa using hf) (by intro v hv'; rw [List.eq_of_mem_replicate hv']; exact h1)
  simp only [Nat.add_zero] at hst
  obtain ⟨m, rfl⟩ : ∃ m, n = m + 1 := ⟨n - 1, by omega⟩
  simp [Builtin.clear_, run_underlying ht, hv, hzc, hst]
theorem setCells_trn {P : Nat → Prop} {a : World} (b : Nat) (hp : P b) : ∀ (vs : List Value) (o : Nat) (w : World), Trn P a w → Trn P a (w.setCells b o vs)
  | [], _, _, h => h
  | v :: vs, o, w, h => setCells_trn b hp vs (o + 1) _ (h.setCell (p := ⟨b, o, none⟩) hp v)
theorem setCells_row {t : TypeId} {b n : Nat} {f : Nat → Value} : ∀ (vs : List Value) (o : Nat) (w : World), n ≤ o → RowB w t b n f → RowB (w.setCells b o vs) t b n f
  | [], _, _, _, h => h
  | v :: vs, o, w, ho, h => setCells_row vs (o + 1) _ (by omega) ((h.set o v).congr fun i hi => by simp [show i ≠ o by omega])
theorem zeroRing (w : World) : (zeroValue 29).run Try.prog w = .ok (.agg #[.slice none 0 0]) w := by kernel_rfl
set_option maxHeartbeats 8000000 in
theorem deleteFunc_f (base lim g k n : Nat) (w : World) (Z : List (Nat → Nat → Nat → Int)) (A : Nat → Nat × Nat) (Lo Hi : Nat → Nat) (h : LsR base lim w (.slice (some ⟨g, 0, none⟩) Z.length k) n Z A Lo Hi) (h1 : 1 ≤ n) (h7 : n ≤ 7) (hZ : Z.length ≤ 1000000000) :
    Calls Try.prog 45 #[.slice (some ⟨g, 0, none⟩) Z.length k, .func (.func 46) #[] #[]] w fun e w' => e = .returned (.slice (some ⟨g, 0, none⟩) (kpL n Z Z.length).length k) ∧ RowB w' 29 g (kpL n Z Z.length).length (fun s => clR A n ((kpL n Z Z.length).getD s 0)) ∧ Trn (fun q => q = g) w w' := by
  have H := Lib.hid h
  have HI := Lib.hid (indexFunc_f base lim g k n w Z A Lo Hi h h1 h7 hZ)
  have HC := Lib.hid (fun t (ht : t < Z.length) (u : World) (hu : Trn (fun q => q = g) w u) => show Calls Try.prog 46 #[.agg #[.slice (some ⟨(A t).1, 0, none⟩) n (A t).2]] u fun e w' => e = .returned (.bool (!ownB n (Z.getD t zF))) ∧ Below u.heap.size u w' by
    obtain ⟨C, B, CC, G, hc⟩ := (h.cub t ht).2.2.trn hu (fun q hq hk => h.off g rfl t ht (hq ▸ hk))
    exact allRings1_f (A t).1 n (A t).2 B (fun _ => 0) C G (fun _ _ => 0) CC (Z.getD t zF) u (cubAt hc) h1 h7)
  have HR := Lib.hid h.cell
  have HK := Lib.hid (show Z.length ≤ k by
    rcases h.own.2 with ⟨hv, -⟩ | ⟨g', cap, cur, hv, -, -, hle, -⟩
    · cases hv
    · cases hv; exact hle)
  by_cases hall : ∀ t, t < Z.length → ownB n (Z.getD t zF) = true
  · have hx : ixB (fun t => !ownB n (Z.getD t zF)) Z.length = -1 := by
      unfold ixB; rw [ff_none (P := fun t => !ownB n (Z.getD t zF)) (fun s hs => by rw [hall s hs]; rfl), if_neg (by omega)]
    rw [hx] at HI
    have HKl := Lib.hid (show kpL n Z Z.length = List.range Z.length from kpL_all hall)
    rw [HKl.out]
    simp only [List.length_range]
    obtain ⟨N, hN⟩ : ∃ N, N = Z.length := ⟨_, rfl⟩
    rw [← hN] at HI HR ⊢
    clear h hall hx HC H HKl HK hN
    go_enter Try.func45, Try.ntmps45
    go_wp2_with fail
    refine HI.out.mono ?_
    rintro e w' ⟨rfl, hb⟩
    have HB := Lib.hid hb
    clear hb
    go_wp2_with fail
    go_ret
    exact ⟨rfl, (RowB.below HR.out HB.out (RowB.lt HR.out)).congr fun i hi => by simp [List.getD, hi], Trn.of_below HB.out⟩
  · have ⟨x, hx, hxn, hxs⟩ : ∃ x : Nat, x < Z.length ∧ ownB n (Z.getD x zF) = false ∧ ∀ s, s < x → ownB n (Z.getD s zF) = true := by
      have hm : ∀ m, m ≤ Z.length → (∃ x : Nat, x < Z.length ∧ ownB n (Z.getD x zF) = false ∧ ∀ s, s < x → ownB n (Z.getD s zF) = true) ∨ ∀ t, t < m → ownB n (Z.getD t zF) = true := by
        intro m
        induction m with
        | zero => intro _; exact Or.inr (fun t ht => absurd ht (by omega))
        | succ m ih =>
          intro hm
          rcases ih (by omega) with h | h
          · exact Or.inl h
          · cases e : ownB n (Z.getD m zF)
            · exact Or.inl ⟨m, by omega, e, h⟩
            · refine Or.inr (fun t ht => ?_)
              by_cases et : t = m
              · rw [et]; exact e
              · exact h t (by omega)
      rcases hm Z.length (Nat.le_refl _) with h | h
      · exact h
      · exact absurd h hall
    have hv : ixB (fun t => !ownB n (Z.getD t zF)) Z.length = (x : Nat) := by
      unfold ixB; rw [ff_hit (P := fun t => !ownB n (Z.getD t zF)) hx (by rw [hxn]; rfl) (fun s hs => by rw [hxs s hs]; rfl), if_pos hx]
    rw [hv] at HI
    have HK0 := Lib.hid (show kpL n Z x = List.range x from kpL_all hxs)
    have HK1 := Lib.hid (show (kpL n Z (x + 1)) = List.range x by rw [kpL_succ, hxn, if_neg (by decide), List.append_nil, HK0.out])
    have HKS := Lib.hid (kpL_succ n Z)
    have HX := Lib.hid hx
    obtain ⟨N, hN⟩ : ∃ N, N = Z.length := ⟨_, rfl⟩
    rw [← hN] at HI HR HC HX HK hZ ⊢
    clear h hall hx hxn hxs hv H hN
    go_enter Try.func45, Try.ntmps45
    go_wp2_with fail
    refine HI.out.mono ?_
    rintro e w' ⟨rfl, hb⟩
    have HB := Lib.hid hb
    clear hb
    have hne : ((x : Int) == -1) = false := beq_eq_false_iff_ne.2 (by omega)
    go_wp2_with fail
    clear hne
    have hXN := HX.out
    go_loopw [5, 6] (fun p1 p2 wr => ∃ (q j : Nat) (fn : Nat → Value), p1 = .int .i64 q ∧ p2 = .int .i64 j ∧ j ≤ N ∧ q = (kpL n Z j).length ∧ q < j ∧ RowB wr 29 g N fn ∧ (∀ s, s < q → fn s = clR A n ((kpL n Z j).getD s 0)) ∧ (∀ s, j ≤ s → fn s = clR A n s) ∧ Trn (fun q => q = g) w wr) (fun _ p2 _ => N - (intOf p2).toNat)
    case atStart =>
      refine ⟨x, x + 1, clR A n, by go_num, by rw [show wrap64 ((x : Int) + 1) = ((x + 1 : Nat) : Int) by unfold wrap64; omega], by omega, by rw [HK1.out]; simp, by omega, RowB.below HR.out HB.out (RowB.lt HR.out), fun s hs => ?_, fun _ _ => rfl, Trn.of_below HB.out⟩
      rw [HK1.out]; simp [List.getD, hs]
    case round =>
      obtain ⟨q, j, fn, rfl, rfl, hj, hq, hqj, hr, hfs, hfj, ht⟩ := hrel
      have HQ := Lib.hid hq
      have HRr := Lib.hid hr
      have HFs := Lib.hid hfs
      have HFj := Lib.hid hfj
      have HT := Lib.hid ht
      clear hq hr hfs hfj ht
      by_cases hjN : j < N
      · have e1 : wr.cell? ⟨g, j, none⟩ = some (.slice (some ⟨(A j).1, 0, none⟩) n (A j).2) := (RowB.cell HRr.out hjN).trans (by rw [HFj.out j (Nat.le_refl _)]; rfl)
        have HCj := Lib.hid (HC.out j hjN)
        have HKj := Lib.hid (HKS.out j)
        have HAd := Lib.hid (show Trn (fun q => q = g) w (wr.alloc (.cells #[.slice (some ⟨(A j).1, 0, none⟩) n (A j).2] 29)) from HT.out.alloc _)
        have HRd := Lib.hid (RowB.below HRr.out (below_alloc wr (.cells #[.slice (some ⟨(A j).1, 0, none⟩) n (A j).2] 29)) (RowB.lt HRr.out))
        have e2 := cell_box wr (.slice (some ⟨(A j).1, 0, none⟩) n (A j).2) 29
        obtain ⟨o, ho⟩ : ∃ o, o = ownB n (Z.getD j zF) := ⟨_, rfl⟩
        rw [← ho] at HCj HKj
        have HO := Lib.hid ho
        clear ho
        obtain ⟨p1, hp1⟩ : ∃ x, x = (A j).1 := ⟨_, rfl⟩
        obtain ⟨p2, hp2⟩ : ∃ x, x = (A j).2 := ⟨_, rfl⟩
        have HV := Lib.hid (show clR A n j = .slice (some ⟨p1, 0, none⟩) n p2 by rw [hp1, hp2]; rfl)
        rw [← hp1, ← hp2] at e1 e2 HCj HAd HRd
        clear hp1 hp2
        have hlt : wr.heap.size < (wr.alloc (.cells #[.slice (some ⟨p1, 0, none⟩) n p2] 29)).heap.size := by simp
        obtain ⟨W, hW⟩ : ∃ W, W = wr.alloc (.cells #[.slice (some ⟨p1, 0, none⟩) n p2] 29) := ⟨_, rfl⟩
        have HWe := Lib.hid hW
        rw [← hW] at hlt e2 HAd HRd
        have HCW := Lib.hid (HCj.out W HAd.out)
        have HE2 := Lib.hid (fun u (hu : Below W.heap.size W u) => (show u.cell? ⟨wr.heap.size, 0, none⟩ = some (.slice (some ⟨p1, 0, none⟩) n p2) from (hu.cell (p := ⟨wr.heap.size, 0, none⟩) hlt).trans e2))
        clear hW HCj
        cases o
        · go_wp2_with fail
          rw [← HWe.out]
          refine HCW.out.mono ?_
          rintro e w2 ⟨rfl, hb2⟩
          have HB2 := Lib.hid hb2
          clear hb2 HCW
          go_wp2_with fail
          refine ⟨⟨q, j + 1, fn, rfl, by go_num, by omega, ?_, by omega, RowB.below HRd.out HB2.out (RowB.lt HRd.out), ?_, fun s hs => HFj.out s (by omega), HAd.out.trans (Trn.of_below HB2.out)⟩, by simp [intOf]; omega⟩
          · rw [HKj.out, if_neg (by decide), List.append_nil]; exact HQ.out
          · rw [HKj.out, if_neg (by decide), List.append_nil]; exact HFs.out
        · go_wp2_with fail
          rw [← HWe.out]
          refine HCW.out.mono ?_
          rintro e w2 ⟨rfl, hb2⟩
          have HB2 := Lib.hid hb2
          have e3 := HE2.out w2 hb2
          have hr2 : RowB w2 29 g N fn := RowB.below HRd.out hb2 (RowB.lt HRd.out)
          have HR2 := Lib.hid hr2
          have e4 := RowB.cell hr2 (show q < N by omega)
          have f4 := RowB.frozen hr2 q
          clear hb2 hr2 HCW
          go_wp2_with fail
          refine ⟨⟨q + 1, j + 1, _, by go_num, by go_num, by omega, ?_, by omega, HR2.out.set q _, ?_, fun s hs => ?_, (HAd.out.trans (Trn.of_below HB2.out)).setCell (p := ⟨g, q, none⟩) rfl _⟩, by simp [intOf]; omega⟩
          · rw [HKj.out, if_pos trivial, List.length_append, ← HQ.out]; rfl
          · intro s hs
            rw [HKj.out, if_pos trivial]
            by_cases e : s = q
            · rw [if_pos e, e]
              simp [List.getD, List.getElem?_append, HQ.out, HV.out]
            · rw [if_neg e, HFs.out s (by omega)]
              have : s < (kpL n Z j).length := by have := HQ.out; omega
              simp [List.getD, List.getElem?_append, this]
          · rw [if_neg (by omega)]; exact HFj.out s (by omega)
      · have ej : j = N := by omega
        subst ej
        have HCl := Lib.hid (show ∀ ty, (Builtin.clear_ #[42] ty #[.slice (some ⟨g, q, none⟩) (j - q) (k - q)]).run Try.prog wr = .ok (.tuple #[]) (wr.setCells g q (List.replicate (j - q) (.slice none 0 0))) from
          fun ty => clear_one wr _ _ ty _ _ (by kernel_rfl) zeroRing rfl rfl g q _ _ (by omega) (fun t ht => by rw [RowB.cell HRr.out (by omega)]; rfl) (fun t ht => RowB.frozen HRr.out _))
        have hcl := HCl.out
        have hk := HK.out
        go_wp2_with (first | fail | simp only [hcl])

        go_ret
        exact ⟨by rw [← HQ.out]; rfl, by rw [← HQ.out]; exact setCells_row _ q wr (Nat.le_refl _) (RowB.congr (RowB.le HRr.out (show q ≤ j by omega)) fun i hi => HFs.out i hi), setCells_trn (P := fun q => q = g) g rfl _ _ _ HT.out⟩
end Go.Proofs.Ytmdmojklagmmiaa
/- Lists of rings for laws: compared, marked, looked at again. -/
namespace Go.Proofs.Ytmdmojklagmmiaa
open Go.RowKit
set_option linter.unusedSimpArgs false
set_option linter.unusedVariables false
abbrev kF (n : Nat) : Nat → Nat := fun _ => n
abbrev kG (n : Nat) : Nat → Nat → Nat := fun _ _ => n
def OwnS (w : World) (lo hi : Nat) (a : Option Addr) (N n : Nat) (F : Nat → Nat → Nat → Nat → Int) : Prop :=
  N = 0 ∨ ∃ (b : Nat) (A : Nat → Nat × Nat) (Lo Hi : Nat → Nat), a = some ⟨b, 0, none⟩ ∧ lo ≤ b ∧ b < hi ∧ RowB w 29 b N (clR A n) ∧
    (∀ t, t < N → lo ≤ Lo t ∧ Hi t ≤ hi ∧ ¬ (Lo t ≤ b ∧ b < Hi t) ∧ CubO w (Lo t) (Hi t) (A t).1 n (kF n) (kG n) (F t)) ∧ ∀ i j, i ≠ j → i < N → j < N → Hi i ≤ Lo j ∨ Hi j ≤ Lo i
def RdS (w : World) (a : Option Addr) (N n : Nat) (F : Nat → Nat → Nat → Nat → Int) : Prop :=
  N = 0 ∨ ∃ (b : Nat) (A : Nat → Nat × Nat), a = some ⟨b, 0, none⟩ ∧ RowB w 29 b N (clR A n) ∧ ∀ t, t < N → RdT w (some ⟨(A t).1, 0, none⟩) n (kF n) (kG n) (F t)
theorem OwnS.rd {w : World} {lo hi : Nat} {a : Option Addr} {N n : Nat} {F : Nat → Nat → Nat → Nat → Int} (h : OwnS w lo hi a N n F) : RdS w a N n F := by
  rcases h with h | ⟨b, A, Lo, Hi, ha, -, -, hr, hc, -⟩
  · exact Or.inl h
  · exact Or.inr ⟨b, A, ha, hr, fun t ht => (hc t ht).2.2.2.rd⟩
theorem RdS.below {w w' : World} {a : Option Addr} {N n : Nat} {F : Nat → Nat → Nat → Nat → Int} (h : RdS w a N n F) (hb : Below w.heap.size w w') : RdS w' a N n F := by
  rcases h with h | ⟨b, A, ha, hr, hc⟩
  · exact Or.inl h
  · exact Or.inr ⟨b, A, ha, hr.below hb hr.lt, fun t ht => (hc t ht).below hb (Nat.le_refl _)⟩
theorem OwnS.below {w w' : World} {lo hi : Nat} {a : Option Addr} {N n : Nat} {F : Nat → Nat → Nat → Nat → Int} (h : OwnS w lo hi a N n F) (hb : Below w.heap.size w w') : OwnS w' lo hi a N n F := by
  rcases h with h | ⟨b, A, Lo, Hi, ha, h1, h2, hr, hc, hd⟩
  · exact Or.inl h
  · exact Or.inr ⟨b, A, Lo, Hi, ha, h1, h2, hr.below hb hr.lt, fun t ht => ⟨(hc t ht).1, (hc t ht).2.1, (hc t ht).2.2.1, (hc t ht).2.2.2.below hb (Nat.le_refl _)⟩, hd⟩
theorem OwnS.only {w w' : World} {lo hi : Nat} {a : Option Addr} {N n : Nat} {F : Nat → Nat → Nat → Nat → Int} {P : Nat → Prop} (h : OwnS w lo hi a N n F) (ho : Only P w w') (hP : ∀ k, P k → ¬ (lo ≤ k ∧ k < hi)) : OwnS w' lo hi a N n F := by
  rcases h with h | ⟨b, A, Lo, Hi, ha, h1, h2, hr, hc, hd⟩
  · exact Or.inl h
  · exact Or.inr ⟨b, A, Lo, Hi, ha, h1, h2, hr.of_block (ho.block _ (fun hp => hP _ hp ⟨h1, h2⟩)), fun t ht => ⟨(hc t ht).1, (hc t ht).2.1, (hc t ht).2.2.1, (hc t ht).2.2.2.only ho (fun k hp hk => hP k hp (by have := (hc t ht).1; have := (hc t ht).2.1; omega))⟩, hd⟩
def RgsRes (u : World) (N n : Nat) (F : Nat → Nat → Nat → Nat → Int) (cd : Int) (e : Ending) (w' : World) : Prop :=
  ∃ a cap, e = .returned (.tuple #[.slice a N cap, .int .i64 cd]) ∧ OwnS w' u.heap.size w'.heap.size a N n F ∧ Below u.heap.size u w'
/-- the marks of a list of rings -/
def mkS (k0 : Int) (n : Nat) (t i j k : Nat) : Int := (k0 + (t * sum3 (kF n) (kG n) n : Nat)) + sum3 (kF n) (kG n) i + pre (kG n i) j + k
set_option maxHeartbeats 4000000 in
theorem eqRingS_f (a b : Option Addr) (N n c d : Nat) (F : Nat → Nat → Nat → Nat → Int) (w : World) (ha : RdS w a N n F) (hb : RdS w b N n F) (hN : N ≤ 1000000000) (hn : n ≤ 1000) :
    Calls Try.prog 24 #[.slice a N c, .slice b N d] w fun e w' => e = .returned (.bool true) ∧ Below w.heap.size w w' := by
  have HA := Lib.hid ha
  have HB := Lib.hid hb
  clear ha hb
  have hnn : ((N : Int) != (N : Int)) = false := by simp
  go_enter Try.func24, Try.ntmps24
  go_wp2_with fail
  go_loopw [5] (fun i wr => ∃ k : Nat, k ≤ N ∧ i = .int .i64 k ∧ Below w.heap.size w wr) (fun i _ => N - (intOf i).toNat)
  case atStart => exact ⟨0, by omega, rfl, Below.refl _ _⟩
  case round =>
    obtain ⟨k, hk, rfl, hd⟩ := hrel
    have HD := Lib.hid hd
    clear hd
    by_cases hlt : k < N
    · obtain ⟨b1, A1, rfl, r1, c1⟩ := HA.out.resolve_left (by omega)
      obtain ⟨b2, A2, rfl, r2, c2⟩ := HB.out.resolve_left (by omega)
      have C1 := Lib.hid (c1 k hlt)
      have C2 := Lib.hid (c2 k hlt)
      have KW := Lib.hid (fun u (hu : Below w.heap.size w u) => show u.cell? ⟨b1, k, none⟩ = some (.slice (some ⟨(A1 k).1, 0, none⟩) n (A1 k).2) ∧ u.cell? ⟨b2, k, none⟩ = some (.slice (some ⟨(A2 k).1, 0, none⟩) n (A2 k).2) from
        ⟨RowB.cell (RowB.below r1 hu r1.lt) hlt, RowB.cell (RowB.below r2 hu r2.lt) hlt⟩)
      clear c1 c2 r1 r2
      generalize (A1 k).1 = x1 at *
      generalize (A2 k).1 = x2 at *
      generalize (A1 k).2 = y1 at *
      generalize (A2 k).2 = y2 at *
      go_wp2_with fail
      go_region_held3 (fun u => u.cell? ⟨b1, k, none⟩ = some (.slice (some ⟨x1, 0, none⟩) n y1) ∧ u.cell? ⟨b2, k, none⟩ = some (.slice (some ⟨x2, 0, none⟩) n y2)) (first | exact KW.out _ HD.out.drew | exact KW.out _ HD.out | exact KW.out _ HB2.out) ((go_at_call 13; refine (eqRing_f (some ⟨x1, 0, none⟩) (some ⟨x2, 0, none⟩) n y1 y2 (kF n) (kG n) (F k) _ (C1.out.below (by first | exact HD.out.drew | exact HD.out) (Nat.le_refl _)) (C2.out.below (by first | exact HD.out.drew | exact HD.out) (Nat.le_refl _)) (by omega) (fun _ _ => by show n ≤ _; omega) (fun _ _ _ _ => by show n ≤ _; omega)).mono ?_; rintro e w2 ⟨rfl, hb2⟩; have HB2 := Lib.hid (HD.out.trans (Below.mono ⟨hb2.os, hb2.tape, hb2.output, hb2.size, hb2.block⟩ HD.out.size)); clear hb2))
      all_goals
        go_wp2_with fail
        exact ⟨⟨k + 1, by omega, by go_num, HB2.out⟩, by simp [intOf]; omega⟩
    · obtain rfl : k = N := by omega
      go_wp2_with fail
      go_ret
      exact ⟨rfl, HD.out⟩
set_option maxHeartbeats 4000000 in
theorem markRingS_f (lo hi : Nat) (a : Option Addr) (N n cap : Nat) (F : Nat → Nat → Nat → Nat → Int) (k0 : Int) (w : World) (h : OwnS w lo hi a N n F) (hn : n ≤ 1000) (hL : N * sum3 (kF n) (kG n) n ≤ 900000000) (hN : N ≤ 1000000000) (hS : sum3 (kF n) (kG n) n ≤ 1000) (h0 : 0 ≤ k0) (h1 : k0 ≤ 1000) :
    Calls Try.prog 25 #[.slice a N cap, .int .i64 k0] w fun e w' => e = .returned (.int .i64 (k0 + (N * sum3 (kF n) (kG n) n : Nat))) ∧ OwnS w' lo hi a N n (mkS k0 n) ∧ Only (fun k => lo ≤ k ∧ k < hi) w w' := by
  obtain ⟨S, hSe⟩ : ∃ S, S = sum3 (kF n) (kG n) n := ⟨_, rfl⟩
  rw [← hSe] at hL hS ⊢
  have HSe := Lib.hid hSe
  clear hSe
  have HL := Lib.hid (show ∀ t, t < N → t * S + S ≤ 900000000 from fun t ht => by
    have := Nat.mul_le_mul_right S (show t + 1 ≤ N from ht)
    rw [Nat.succ_mul] at this; omega)
  have HSu := Lib.hid (show ∀ t : Nat, (t + 1) * S = t * S + S from fun t => Nat.succ_mul t S)
  rcases h with rfl | ⟨b, A, Lo, Hi, rfl, hb1, hb2, hr, hc, hd⟩
  · go_enter Try.func25, Try.ntmps25
    go_wp2_with fail
    go_loopw [1, 5] (fun q i wr => i = .int .i64 0 ∧ q = .int .i64 k0 ∧ wr = w) (fun _ i _ => 0)
    case atStart => exact ⟨rfl, rfl, rfl⟩
    case round =>
      obtain ⟨rfl, rfl, rfl⟩ := hrel
      go_wp2_with fail
      go_ret
      exact ⟨by rw [Nat.zero_mul]; exact ret_int (by simp), Or.inl rfl, Only.refl _ _⟩
  · have HR := Lib.hid hr
    have HC := Lib.hid hc
    have HD := Lib.hid hd
    clear hr hc hd
    go_enter Try.func25, Try.ntmps25
    go_wp2_with fail
    go_loopw [1, 5] (fun q i wr => ∃ t : Nat, t ≤ N ∧ i = .int .i64 t ∧ q = .int .i64 (k0 + (t * S : Nat)) ∧ (∀ s, s < N → CubO wr (Lo s) (Hi s) (A s).1 n (kF n) (kG n) (if s < t then mkS k0 n s else F s)) ∧ RowB wr 29 b N (clR A n) ∧ Only (fun k => lo ≤ k ∧ k < hi) w wr) (fun _ i _ => N - (intOf i).toNat)
    case atStart => exact ⟨0, by omega, rfl, by rw [Nat.zero_mul]; congr 1; simp, fun s hs => (HC.out s hs).2.2.2, HR.out, Only.refl _ _⟩
    case round =>
      obtain ⟨t, ht, rfl, rfl, hcs, hr, ho⟩ := hrel
      have HCs := Lib.hid hcs
      have HRr := Lib.hid hr
      have HO := Lib.hid ho
      clear hcs hr ho
      by_cases htN : t < N
      · have e1 : wr.cell? ⟨b, t, none⟩ = some (.slice (some ⟨(A t).1, 0, none⟩) n (A t).2) := RowB.cell HRr.out htN
        have hbd := HL.out t htN
        obtain ⟨C, B, CC, G, hct⟩ := HCs.out t htN
        obtain ⟨K, hK⟩ : ∃ K : Nat, K = t * S := ⟨_, rfl⟩
        have HK := Lib.hid hK
        rw [← hK] at hbd ⊢
        have HCm := Lib.hid (markInt64SSS_f (Lo t) (Hi t) (A t).1 n (A t).2 (kF n) (kG n) C B CC G _ (k0 + (K : Nat)) wr hct (by omega) (fun _ _ => by show n ≤ _; omega) (by rw [← HSe.out]; omega) (by omega) (by omega))
        rw [← HSe.out] at HCm
        clear hct hK
        go_wp2_with fail
        refine HCm.out.mono ?_
        rintro e w2 ⟨rfl, hc2, ho2⟩
        have HC2 := Lib.hid (show CubO w2 (Lo t) (Hi t) (A t).1 n (kF n) (kG n) (mkS k0 n t) from ⟨C, B, CC, G, by
          unfold mkS; rw [← HSe.out, ← HK.out]; exact hc2⟩)
        have HO2 := Lib.hid ho2
        clear hc2 ho2 HCm
        go_wp2_with fail
        refine ⟨⟨t + 1, by omega, by go_num, ?_, fun s hs => ?_, ?_, ?_⟩, by simp [intOf]; omega⟩
        · congr 1
          rw [HSu.out, ← HK.out]; omega
        · by_cases e : s = t
          · rw [e, if_pos (by omega)]; exact HC2.out
          · have h3 := (HCs.out s hs).only HO2.out (fun k hk hs' => by
              rcases HD.out s t e hs htN with h | h <;> omega)
            by_cases e' : s < t
            · rw [if_pos e'] at h3; rw [if_pos (by omega)]; exact h3
            · rw [if_neg e'] at h3; rw [if_neg (by omega)]; exact h3
        · exact HRr.out.of_block (HO2.out.block _ (HC.out t htN).2.2.1)
        · exact HO.out.trans (HO2.out.mono (fun k hk => by have := (HC.out t htN).1; have := (HC.out t htN).2.1; omega))
      · obtain rfl : t = N := by omega
        go_wp2_with fail
        go_ret
        refine ⟨rfl, Or.inr ⟨b, A, Lo, Hi, rfl, hb1, hb2, HRr.out, fun s hs => ⟨(HC.out s hs).1, (HC.out s hs).2.1, (HC.out s hs).2.2.1, ?_⟩, HD.out⟩, HO.out⟩
        have := HCs.out s hs
        rw [if_pos hs] at this
        exact this
set_option maxHeartbeats 4000000 in
theorem heldRingS_f (a : Option Addr) (N n cap : Nat) (k0 : Int) (w : World) (h : RdS w a N n (mkS k0 n)) (hn : n ≤ 1000) (hL : N * sum3 (kF n) (kG n) n ≤ 900000000) (hN : N ≤ 1000000000) (hS : sum3 (kF n) (kG n) n ≤ 1000) (h0 : 0 ≤ k0) (h1 : k0 ≤ 1000) :
    Calls Try.prog 26 #[.slice a N cap, .int .i64 k0] w fun e w' => e = .returned (.int .i64 (k0 + (N * sum3 (kF n) (kG n) n : Nat))) ∧ w = w' := by
  obtain ⟨S, hSe⟩ : ∃ S, S = sum3 (kF n) (kG n) n := ⟨_, rfl⟩
  rw [← hSe] at hL hS ⊢
  have HSe := Lib.hid hSe
  clear hSe
  have HL := Lib.hid (show ∀ t, t < N → t * S + S ≤ 900000000 from fun t ht => by
    have := Nat.mul_le_mul_right S (show t + 1 ≤ N from ht)
    rw [Nat.succ_mul] at this; omega)
  have HSu := Lib.hid (show ∀ t : Nat, (t + 1) * S = t * S + S from fun t => Nat.succ_mul t S)
  have H := Lib.hid h
  clear h
  go_enter Try.func26, Try.ntmps26
  go_wp2_with fail
  go_loopw [1, 5] (fun q i wr => ∃ t : Nat, t ≤ N ∧ i = .int .i64 t ∧ q = .int .i64 (k0 + (t * S : Nat)) ∧ wr = w) (fun _ i _ => N - (intOf i).toNat)
  case atStart => exact ⟨0, by omega, rfl, by rw [Nat.zero_mul]; congr 1; simp, rfl⟩
  case round =>
    obtain ⟨t, ht, rfl, rfl, rfl⟩ := hrel
    by_cases htN : t < N
    · obtain ⟨b, A, rfl, hr, hc⟩ := H.out.resolve_left (by omega)
      have e1 : wr.cell? ⟨b, t, none⟩ = some (.slice (some ⟨(A t).1, 0, none⟩) n (A t).2) := RowB.cell hr htN
      have hbd := HL.out t htN
      have hct := hc t htN
      clear hr hc
      obtain ⟨K, hK⟩ : ∃ K : Nat, K = t * S := ⟨_, rfl⟩
      have HK := Lib.hid hK
      rw [← hK] at hbd ⊢
      have hct2 : RdT wr (some ⟨(A t).1, 0, none⟩) n (kF n) (kG n) (fun i j k => (k0 + (K : Nat)) + sum3 (kF n) (kG n) i + pre (kG n i) j + k) := by
        unfold mkS at hct; rw [← HSe.out, ← hK] at hct; exact hct
      have HCm := Lib.hid (heldInt64SSS_f (some ⟨(A t).1, 0, none⟩) n (A t).2 (kF n) (kG n) (k0 + (K : Nat)) wr hct2 (by omega) (fun _ _ => by show n ≤ _; omega) (by rw [← HSe.out]; omega) (by omega) (by omega))
      rw [← HSe.out] at HCm
      have hng : decide (k0 + (K : Int) + (S : Int) < 0) = false := by simp; omega
      clear hct hct2 hK
      go_wp2_with fail
      refine HCm.out.mono ?_
      rintro e w2 ⟨rfl, rfl⟩
      clear HCm
      go_wp2_with fail
      refine ⟨⟨t + 1, by omega, by go_num, ?_, by first | trivial | rfl⟩, by simp [intOf]; omega⟩
      congr 1
      rw [HSu.out, ← HK.out]; omega
    · obtain rfl : t = N := by omega
      go_wp2_with fail
      go_ret
      first | exact ⟨rfl, rfl⟩ | exact ⟨rfl, trivial⟩
end Go.Proofs.Ytmdmojklagmmiaa
/- AllRings of the specification: the tables that are their own least form, each put where it belongs. -/
namespace Go.Proofs.Ytmdmojklagmmiaa
open Go.RowKit
set_option linter.unusedSimpArgs false
set_option linter.unusedVariables false
/-- the order of a list of places of tables -/
def SrtJ (n : Nat) (X : List (Nat → Nat → Nat → Int)) (J : List Nat) : Prop := ∀ s t, s < t → t < J.length → ¬ ltT n (X.getD (J.getD t 0) zF) (X.getD (J.getD s 0) zF)
def insJ (J : List Nat) (a i : Nat) : List Nat := J.take a ++ i :: J.drop a
theorem insJ_perm (J : List Nat) (a i : Nat) : (insJ J a i).Perm (J ++ [i]) := by
  unfold insJ
  refine List.perm_middle.trans ?_
  rw [List.take_append_drop]
  exact (List.perm_append_singleton i J).symm
theorem insJ_at {J : List Nat} {a i s : Nat} (ha : a ≤ J.length) : (insJ J a i).getD s 0 = if s < a then J.getD s 0 else if s = a then i else J.getD (s - 1) 0 := by
  unfold insJ
  have hl : (J.take a).length = a := by simp; omega
  simp only [List.getD]
  by_cases h1 : s < a
  · rw [if_pos h1, List.getElem?_append_left (by omega), List.getElem?_take, if_pos h1]
  · rw [if_neg h1, List.getElem?_append_right (by omega), hl]
    by_cases h2 : s = a
    · rw [if_pos h2, h2, Nat.sub_self]; rfl
    · rw [if_neg h2]
      obtain ⟨d, hd⟩ : ∃ d, s - a = d + 1 := ⟨s - a - 1, by omega⟩
      rw [hd, List.getElem?_cons_succ, List.getElem?_drop, show a + d = s - 1 by omega]
theorem SrtJ.ins {n : Nat} {X : List (Nat → Nat → Nat → Int)} {J : List Nat} {a i : Nat} (h : SrtJ n X J) (ha : a ≤ J.length) (hb : ∀ s, s < a → ltT n (X.getD (J.getD s 0) zF) (X.getD i zF)) (hn : a < J.length → ¬ ltT n (X.getD (J.getD a 0) zF) (X.getD i zF)) : SrtJ n X (insJ J a i) := by
  intro s t hst ht
  have hl : (insJ J a i).length = J.length + 1 := by rw [(insJ_perm J a i).length_eq]; simp
  rw [hl] at ht
  rw [insJ_at ha, insJ_at ha]
  by_cases t1 : t < a
  · rw [if_pos t1, if_pos (by omega)]; exact h s t hst (by omega)
  · rw [if_neg t1]
    by_cases t2 : t = a
    · rw [if_pos t2, if_pos (by omega)]; exact ltT_asym (hb s (by omega))
    · rw [if_neg t2]
      by_cases s1 : s < a
      · rw [if_pos s1]; exact h s (t - 1) (by omega) (by omega)
      · rw [if_neg s1]
        by_cases s2 : s = a
        · rw [if_pos s2]
          by_cases e : t - 1 = a
          · rw [e]; exact hn (by omega)
          · exact ltT_ntrans (h a (t - 1) (by omega) (by omega)) (hn (by omega))
        · rw [if_neg s2]; exact h (s - 1) (t - 1) (by omega) (by omega)
theorem per3_len {n : Nat} (h1 : 1 ≤ n) (h3 : n ≤ 3) : (per n).length ≤ 2 := by
  rcases (show n = 1 ∨ n = 2 ∨ n = 3 by omega) with rfl | rfl | rfl <;> decide
/-- cells of rings are appended to an own list of rings -/
theorem stepCells (w : World) {ops : Array Oper} {o : Oper} {a : Act} {K : Act → World → Prop} {Q : Exit → Act → World → Prop} {E : Prop} (hgd : o.guard = none) (s x : Operand)
    (ho : o.op = .call { callee := .builtin .append, args := #[s, x], argTypes := #[42, 42] })
    (base : Nat) (v : Value) (n : Nat) (xs : List Value) (hs : a.eval s = v) (hown : w.ownsRow base 29 1 v n xs)
    (ad : Addr) (m c : Nat) (V : List Value) (hx : a.eval x = .slice (some ad) m c) (hl : V.length = m) (hy : ∀ j u, V[j]? = some u → w.cell? (ad.add j) = some u) (h1 : ∀ u ∈ V, u.oneCell' = true) (hn : n ≤ 1000000000) (hm : m ≤ 1000000000) (hbase : base ≤ w.heap.size) (hv : v ≠ .slice none 0 0)
    (h : ∀ g c w', w'.ownsRow base 29 1 (.slice (some ⟨g, 0, none⟩) (n + m) c) (n + m) (xs ++ V) → w.grownBy w' v.ownBlock → (some g = v.ownBlock ∨ some g = some w.heap.size) → K (a.put o.dst (.slice (some ⟨g, 0, none⟩) (n + m : Nat) c)) w') :
    if Region.wanted o (yielded ops a.tmps) = true then Oper.wp Try.prog o a w K Q else E := by
  have hw : Region.wanted o (yielded ops a.tmps) = true := by simp [Region.wanted, hgd]
  rw [if_pos hw]
  obtain ⟨i0, hi, hz0, hz1, hz2⟩ := info_parts infoRing
  obtain ⟨v', w', hr, h2, h3, h4, h5⟩ := run_append_own_at (P := Try.prog) w base 42 o.type 29 i0 (.agg #[.slice none 0 0]) 1 24 Try.underlying42 hi hz0 hz1 hz2 rfl (by decide) v n xs hown ad m c V (by rw [hl, Nat.mul_one]) hy h1 (by unfold maxLen; omega) (by omega) hbase
  unfold Oper.wp execOp
  simp only [ho, resolve, invoke, builtin, Sem.run_bind, Sem.run_pure, Result.andThen_ok, List.map_toArray, List.map_cons, List.map_nil, hs, hx, hr]
  rcases h2.2 with ⟨e, _⟩ | ⟨g, cap, cur, e, _⟩
  · exact absurd (h4.1 e).1 hv
  · subst e
    exact h g cap w' h2 h3 h5
theorem pushCells (w : World) {ops : Array Oper} {rest : List Oper} {o : Oper} {a : Act} {Q : Exit → Act → World → Prop} (hgd : o.guard = none) (s x : Operand)
    (ho : o.op = .call { callee := .builtin .append, args := #[s, x], argTypes := #[42, 42] })
    (base : Nat) (v : Value) (n : Nat) (xs : List Value) (hs : a.eval s = v) (hown : w.ownsRow base 29 1 v n xs)
    (ad : Addr) (m c : Nat) (V : List Value) (hx : a.eval x = .slice (some ad) m c) (hl : V.length = m) (hy : ∀ j u, V[j]? = some u → w.cell? (ad.add j) = some u) (h1 : ∀ u ∈ V, u.oneCell' = true) (hn : n ≤ 1000000000) (hm : m ≤ 1000000000) (hbase : base ≤ w.heap.size) (hv : v ≠ .slice none 0 0)
    (h : ∀ g c w', w'.ownsRow base 29 1 (.slice (some ⟨g, 0, none⟩) (n + m) c) (n + m) (xs ++ V) → w.grownBy w' v.ownBlock → (some g = v.ownBlock ∨ some g = some w.heap.size) → wpList Try.prog ops Q rest (a.put o.dst (.slice (some ⟨g, 0, none⟩) (n + m : Nat) c)) w') : wpList Try.prog ops Q (o :: rest) a w := by
  obtain ⟨i0, hi, hz0, hz1, hz2⟩ := info_parts infoRing
  refine wpList_append_own_at w hgd s x _ ho base 29 i0 (.agg #[.slice none 0 0]) 1 24 Try.underlying42 hi hz0 hz1 hz2 rfl (by decide) v n xs hs hown ad m c V hx (by rw [hl, Nat.mul_one]) hy h1 (by unfold maxLen; omega) (by omega) hbase (fun v' w' h2 h3 h4 h5 => ?_)
  rcases h2.2 with ⟨e, _⟩ | ⟨g, cap, cur, e, _⟩
  · exact absurd (h4.1 e).1 hv
  · subst e
    exact h g cap w' h2 h3 h5
theorem own_iff {n : Nat} {F : Nat → Nat → Nat → Int} (h1 : 1 ≤ n) (h2 : n ≤ 7) : ownL n F ↔ ∀ s, s < (per n).length → ¬ ltT n (ren F (invL n ((per n).getD s []))) F := by
  constructor
  · intro h s hs
    exact h _ (per_inv h1 h2 (by rw [List.getD_eq_getElem?_getD, List.getElem?_eq_getElem hs]; exact List.getElem_mem hs))
  · intro h p hp hlt
    obtain ⟨s, hs, e⟩ := List.getElem_of_mem (per_inv h1 h2 hp)
    refine h s hs (ltT_cong hlt (fun i j k hi hj hk => ?_) (fun _ _ _ _ _ _ => rfl))
    have e2 : (per n).getD s [] = invL n p := by rw [List.getD_eq_getElem?_getD, List.getElem?_eq_getElem hs]; exact e
    rw [e2]
    unfold ren
    rw [per_inv2 h1 h2 hp i hi, per_inv2 h1 h2 hp j hj, per_inv2 h1 h2 hp k hk]
theorem kpL_mem {n : Nat} {Z : List (Nat → Nat → Nat → Int)} {j t : Nat} (h : t ∈ kpL n Z j) : t < j ∧ ownB n (Z.getD t zF) = true := by
  unfold kpL at h
  rw [List.mem_filter] at h
  exact ⟨List.mem_range.1 h.1, h.2⟩
theorem row_of_J {w : World} {base g k n : Nat} {A : Nat → Nat × Nat} {J : List Nat} (h : w.ownsRow base 29 1 (.slice (some ⟨g, 0, none⟩) J.length k) J.length (J.map (clR A n))) : RowB w 29 g J.length (fun s => clR A n (J.getD s 0)) :=
  (RowB_of_own h).congr fun i hi => by simp [List.getD, hi]
theorem own_cap {w : World} {base g k N : Nat} {xs : List Value} (h : w.ownsRow base 29 1 (.slice (some ⟨g, 0, none⟩) N k) N xs) : N ≤ k := by
  rcases h.2 with ⟨hv, -⟩ | ⟨g', cap, cur, hv, -, -, hle, -⟩
  · cases hv
  · cases hv; exact hle
theorem cells_of_J {w : World} {g n N : Nat} {A : Nat → Nat × Nat} {f : Nat → Value} (h : RowB w 29 g N f) (K : List Nat) (o : Nat) (hK : K.length + o ≤ N) (hf : ∀ t, t < K.length → f (o + t) = clR A n (K.getD t 0)) (j : Nat) (v : Value) (hv : (K.map (clR A n))[j]? = some v) : w.cell? ((⟨g, o, none⟩ : Addr).add j) = some v := by
  have hj : j < K.length := by
    have := (List.getElem?_eq_some_iff.1 hv).1
    simpa using this
  rw [Addr.add_lit, RowB.cell h (show o + j < N by omega), hf j hj]
  rw [List.getElem?_map, List.getElem?_eq_getElem hj] at hv
  rw [List.getD_eq_getElem?_getD, List.getElem?_eq_getElem hj]
  exact hv
set_option maxHeartbeats 8000000 in
set_option maxRecDepth 100000 in
theorem l07List_f (n m : Nat) (w : World) (h0 : 1 ≤ n) (hn : n ≤ 3) (hm : m ≤ 4) :
    Calls Try.prog 42 #[.int .i64 (n : Nat), .int .i64 (m : Nat)] w fun e w' => ∃ g k ga ka A Lo Hi J, e = .returned (.slice (some ⟨g, 0, none⟩) J.length k) ∧ LsR w.heap.size w.heap.size w' (.slice (some ⟨ga, 0, none⟩) (allX n m).length ka) n (allX n m) A Lo Hi ∧ J.Perm (kpL n (allX n m) (allX n m).length) ∧ SrtJ n (allX n m) J ∧ RowB w' 29 g J.length (fun s => clR A n (J.getD s 0)) ∧ w.heap.size ≤ g ∧ (∀ t, t < (allX n m).length → Hi t ≤ g) ∧ Below w.heap.size w w' := by
  have h7 : n ≤ 7 := by omega
  have hlen := per_len n h0 h7
  have hpos : 0 < (per n).length := List.length_pos_of_mem (idP_mem h0 h7)
  go_enter Try.func42, Try.ntmps42
  go_wp2_with fail
  refine (l07All_f n m w h0 hn hm).mono ?_
  rintro e w1 ⟨ga, ka, A, Lo, Hi, rfl, hl, hb⟩
  have HL := Lib.hid hl
  have HB1 := Lib.hid hb
  clear hl hb
  have HOr := Lib.hid (l03Orders_f n (by omega) (n - 1) [0] [] w1.heap.size 1 (.slice none 0 0) (fun _ => 0) (fun _ => 0) w1 w1 (w1.alloc (.cells #[.int .i64 0] 2)) (by simp; omega) (by simp) (by simp only [List.nil_append]; show (per n).length ≤ 1000; omega) (accM_nil _ _ _ _ _ _ _) (below_alloc _ _) (Nat.le_refl _) (row_zero w1) (Nat.le_refl _) (by unfold maxLen; omega))
  go_wp2_with fail
  refine HOr.out.mono ?_
  rintro e w2 ⟨v2, C3, G3, rfl, hacc, _, _⟩
  have hacc := (show AccM w1 w2 26 2 v2 (per n).length (fun _ => n) C3 G3 (rowF (per n)) from hacc)
  obtain ⟨g2, c2, rfl⟩ := hacc.form hpos
  have HM := Lib.hid hacc.done.2.2
  have HB2 := Lib.hid (HB1.out.trans (hacc.bel.mono HB1.out.size))
  have HL2 := Lib.hid (HL.out.trn (Trn.of_below (P := fun _ => False) hacc.bel) (fun _ _ h => h) (fun _ h => h.elim))
  have HHi := Lib.hid (show ∀ t, t < (allX n m).length → Hi t ≤ w2.heap.size from fun t ht => Nat.le_trans (HL.out.cub t ht).2.1 hacc.bel.size)
  have HMm := Lib.hid (show ∀ s, s < (per n).length → (per n).getD s [] ∈ per n from fun s hs => by
    rw [List.getD_eq_getElem?_getD, List.getElem?_eq_getElem hs]; exact List.getElem_mem hs)
  have hXl : (allX n m).length ≤ 1000000 := by
    have h1 := rdL_len (n := n) (m := m) hn hm (per n)
    have h2 := per3_len h0 hn
    unfold allX
    omega
  clear hacc HOr HL HB1
  obtain ⟨X, hX⟩ : ∃ X, X = allX n m := ⟨_, rfl⟩
  rw [← hX] at HL2 HHi hXl ⊢
  have HXe := Lib.hid hX
  clear hX
  obtain ⟨M, hM⟩ : ∃ M, M = X.length := ⟨_, rfl⟩
  have HMl := Lib.hid hM
  have HRow := Lib.hid HL2.out.cell
  have HCub := Lib.hid (show ∀ t, t < M → ∃ B C B2 C2, ∀ u, Below w2.heap.size w2 u → CubeAt u (A t).1 0 n B (fun _ => 0) C B2 (fun _ _ => 0) C2 (X.getD t zF) from fun t ht => by
    obtain ⟨C, B, CC, G, hc⟩ := (HL2.out.cub t (hM ▸ ht)).2.2
    exact ⟨B, C, G, CC, fun u hu => (cubAt hc).below hu⟩)
  rw [← hM] at HHi HRow hXl ⊢
  clear hM
  obtain ⟨N, hN⟩ : ∃ N, N = (per n).length := ⟨_, rfl⟩
  rw [← hN] at HM hlen hpos HMm ⊢
  have HNl := Lib.hid hN
  clear hN
  obtain ⟨W, hW⟩ : ∃ W, W = w2.alloc (.cells #[] 29) := ⟨_, rfl⟩
  have HBW := Lib.hid (show Below w2.heap.size w2 W by rw [hW]; exact below_alloc _ _)
  have HO0 := Lib.hid (show W.ownsRow w2.heap.size 29 1 (.slice (some ⟨w2.heap.size, 0, none⟩) 0 0) 0 (([] : List Nat).map (clR A n)) by
    rw [hW]; exact World.ownsRow_lit w2 #[] 0 (Nat.le_refl _) (by decide) rfl)
  have HWe := Lib.hid hW
  clear hW
  go_wp2_with fail
  rw [← HWe.out]
  have hw2 : w2.heap.size ≤ W.heap.size := HBW.out.size
  go_loopw [7, 8] (fun v x wr => ∃ (i : Nat) (J : List Nat) (g k : Nat), i ≤ M ∧ x = .int .i64 i ∧ v = .slice (some ⟨g, 0, none⟩) J.length k ∧ wr.ownsRow w2.heap.size 29 1 (.slice (some ⟨g, 0, none⟩) J.length k) J.length (J.map (clR A n)) ∧ J.Perm (kpL n X i) ∧ SrtJ n X J ∧ Below w2.heap.size w2 wr) (fun _ x _ => M - (intOf x).toNat)
  case atStart => exact ⟨0, [], _, _, by omega, rfl, rfl, HO0.out, List.Perm.refl _, fun s t _ ht => absurd ht (by simp), HBW.out⟩
  case round =>
    obtain ⟨i, J, g, k, hi, rfl, rfl, how, hperm, hsrt, hbel⟩ := hrel
    have HO := Lib.hid how
    have HP := Lib.hid hperm
    have HS := Lib.hid hsrt
    have HB := Lib.hid hbel
    clear how hperm hsrt hbel
    by_cases hiM : i < M
    · have hJl : J.length ≤ i := by rw [HP.out.length_eq]; exact kpL_le _ _ _
      obtain ⟨B, C, B2, C2, hcu⟩ := HCub.out i hiM
      have HCu := Lib.hid hcu
      clear hcu
      have HCi := Lib.hid (fun u (hu : Below w2.heap.size w2 u) => show u.cell? ⟨ga, i, none⟩ = some (.slice (some ⟨(A i).1, 0, none⟩) n (A i).2) from RowB.cell (RowB.below HRow.out hu (RowB.lt HRow.out)) hiM)
      obtain ⟨F, hF⟩ : ∃ F, F = X.getD i zF := ⟨_, rfl⟩
      rw [← hF] at HCu
      have HF := Lib.hid hF
      clear hF
      have hclr : clR A n i = .slice (some ⟨(A i).1, 0, none⟩) n (A i).2 := rfl
      have HClr := Lib.hid hclr
      clear hclr
      obtain ⟨p1, hp1⟩ : ∃ x, x = (A i).1 := ⟨_, rfl⟩
      obtain ⟨p2, hp2⟩ : ∃ x, x = (A i).2 := ⟨_, rfl⟩
      rw [← hp1] at HCu HCi HClr
      rw [← hp2] at HCi HClr
      clear hp1 hp2
      go_wp2_with fail
      have hwr : w2.heap.size ≤ wr.heap.size := HB.out.size
      obtain ⟨wo, hwo⟩ : ∃ x, x = wr := ⟨_, rfl⟩
      subst hwo
      go_loopw [9, 10] (fun o x wr => ∃ (j : Nat) (v : Bool), j ≤ N ∧ x = .int .i64 j ∧ o = .bool v ∧ (v = true ↔ ∀ s, s < j → ¬ ltT n (ren F (invL n ((per n).getD s []))) F) ∧ Below wo.heap.size wo wr) (fun _ x _ => N - (intOf x).toNat)
      case atStart => exact ⟨0, true, by omega, rfl, rfl, by simp, Below.refl _ _⟩
      case round =>
        obtain ⟨j, v, hj, rfl, rfl, hv, hb⟩ := hrel
        have HV := Lib.hid hv
        have HB3 := Lib.hid hb
        clear hv hb
        by_cases hjN : j < N
        · have HBt := Lib.hid (HB.out.trans (HB3.out.mono HB.out.size))
          have HRr := Lib.hid (HM.out.rd.below HBt.out (Nat.le_refl _))
          obtain ⟨b3, o3, A3, C4, e3, l3, c3⟩ := HRr.out.open hpos
          cases e3
          have hrow := c3 j hjN
          have e1 := hrow.1
          have HRw := Lib.hid hrow.2
          have HPm := Lib.hid (HMm.out j hjN)
          obtain ⟨p, hp⟩ : ∃ p, p = (per n).getD j [] := ⟨_, rfl⟩
          have HPe := Lib.hid hp
          have HRw := Lib.hid (show RdR wr (A3 j) n (lF p) from by rw [hp]; exact HRw.out)
          rw [← hp] at HPm
          clear hp hrow c3 HRr
          generalize A3 j = a3 at *
          generalize C4 j = c4 at *
          rw [Nat.zero_add] at e1
          have KW := Lib.hid (fun u (hu : Below wr.heap.size wr u) => show u.cell? ⟨ga, i, none⟩ = some (.slice (some ⟨p1, 0, none⟩) n p2) ∧ u.cell? ⟨g2, j, none⟩ = some (.slice a3 n c4) from ⟨HCi.out u (HBt.out.trans (hu.mono HBt.out.size)), (hu.cell (p := ⟨g2, j, none⟩) l3).trans e1⟩)
          clear e1 l3
          cases v
          · have HV' := Lib.hid (show (false = true ↔ ∀ s, s < j + 1 → ¬ ltT n (ren F (invL n ((per n).getD s []))) F) from ⟨fun h => (by cases h), fun h => by have h9 := HV.out.2 (fun s hs => h s (by omega)); first | exact h9 | exact h9.elim⟩)
            go_wp2_with fail
            go_quiet (fail)
            go_wp2_with fail
            exact ⟨⟨j + 1, false, by omega, by go_num, rfl, HV'.out, below_drewN HB3.out _⟩, by simp [intOf]; omega⟩
          · go_wp2_with fail
            go_region_held3 (fun u => u.cell? ⟨ga, i, none⟩ = some (.slice (some ⟨p1, 0, none⟩) n p2) ∧ u.cell? ⟨g2, j, none⟩ = some (.slice a3 n c4)) (first | exact KW.out _ HB5.out | exact KW.out _ HB4.out | exact KW.out _ (Below.refl _ _).drew | exact KW.out _ (Below.refl _ _)) (first | (have q9 := HB4.out; clear q9; obtain ⟨b5, o5, B5, O5, C5, B6, O6, C6, e5, hat5⟩ := cubeAt_of HC4.out.rd h0; cases e5; go_at_call 69; refine (l03Before_f g4 0 n cg4 B5 O5 C5 B6 O6 C6 (ren F (invL n p)) p1 0 p2 B (fun _ => 0) C B2 (fun _ _ => 0) C2 F _ hat5 (HCu.out _ (HBt.out.trans (HB4.out.mono HBt.out.size))) (by omega)).mono ?_; rintro e w5 ⟨⟨v5, rfl, hv5⟩, hd5⟩; have HV5 := Lib.hid hv5; have HB5 := Lib.hid (HB4.out.trans (hd5.below.mono HB4.out.size)); clear hv5 hd5 hat5) | (go_at_call 70; refine (l03Image_f p1 0 n p2 B (fun _ => 0) C B2 (fun _ _ => 0) C2 F p a3 c4 _ (HCu.out _ (by first | exact HBt.out.drew | exact HBt.out)) (HRw.out.below (by first | exact (Below.refl _ _).drew | exact Below.refl _ _) (Nat.le_refl _)) HPm.out h0 h7).mono ?_; rintro e w4 ⟨g4, cg4, rfl, hc4, hb4⟩; have HC4 := Lib.hid hc4; have HB4 := Lib.hid (show Below wr.heap.size wr w4 from ⟨hb4.os, hb4.tape, hb4.output, hb4.size, hb4.block⟩); clear hc4 hb4))
            all_goals
              have HV' := Lib.hid (show ((!v5) = true ↔ ∀ s, s < j + 1 → ¬ ltT n (ren F (invL n ((per n).getD s []))) F) from ⟨fun h s hs => by
                by_cases e : s = j
                · rw [e, ← HPe.out]; intro hlt
                  have := HV5.out.2 hlt
                  rw [this] at h; cases h
                · exact HV.out.1 (by first | rfl | trivial) s (by omega), fun h => by
                  have h2 := h j (by omega)
                  rw [← HPe.out] at h2
                  cases hv5 : v5
                  · rfl
                  · exact absurd (HV5.out.1 hv5) h2⟩)
              go_wp2_with fail
              exact ⟨⟨j + 1, !v5, by omega, by go_num, rfl, HV'.out, HB3.out.trans (HB5.out.mono HB3.out.size)⟩, by simp [intOf]; omega⟩
        · obtain rfl : j = N := by omega
          have HOw := Lib.hid (show (v = true ↔ ownB n F = true) by rw [ownB_t, own_iff h0 h7, ← HNl.out]; exact HV.out)
          have HBt := Lib.hid (HB.out.trans (HB3.out.mono HB.out.size))
          have HO3 := Lib.hid (own_trn HO.out (Trn.of_below (P := fun _ => False) HB3.out) (fun _ _ h => h))
          cases v
          · have hkp : kpL n X (i + 1) = kpL n X i := by
              rw [kpL_succ, ← HF.out]
              cases hb : ownB n F
              · simp
              · rw [hb] at HOw; exact absurd (HOw.out.2 rfl) (by decide)
            have HKp := Lib.hid hkp
            clear hkp
            go_wp2_with fail
            exact ⟨⟨i + 1, J, g, k, by omega, by go_num, rfl, HO3.out, by rw [HKp.out]; exact HP.out, HS.out, HBt.out⟩, by simp [intOf]; omega⟩
          · have hkp : kpL n X (i + 1) = kpL n X i ++ [i] := by
              rw [kpL_succ, ← HF.out, HOw.out.1 rfl]; rfl
            have HKp := Lib.hid hkp
            clear hkp
            have HRJ := Lib.hid (row_of_J HO3.out)
            go_wp2_with fail
            have hwr3 : wo.heap.size ≤ wr.heap.size := HB3.out.size
            obtain ⟨wq, hwq⟩ : ∃ x, x = wr := ⟨_, rfl⟩
            subst hwq
            go_loopw [11] (fun x wr => ∃ a : Nat, a ≤ J.length ∧ x = .int .i64 a ∧ (∀ s, s < a → ltT n (X.getD (J.getD s 0) zF) F) ∧ Below wq.heap.size wq wr) (fun x _ => J.length - (intOf x).toNat)
            case atStart => exact ⟨0, by omega, rfl, fun s hs => absurd hs (by omega), Below.refl _ _⟩
            case round =>
              obtain ⟨a, ha, rfl, hlt, hb⟩ := hrel
              have HLt := Lib.hid hlt
              have HB6 := Lib.hid hb
              clear hlt hb
              have HBu := Lib.hid (HBt.out.trans (HB6.out.mono HBt.out.size))
              by_cases haJ : a < J.length
              · have hja : J.getD a 0 < i := by
                  have : J.getD a 0 ∈ J := by rw [List.getD_eq_getElem?_getD, List.getElem?_eq_getElem haJ]; exact List.getElem_mem haJ
                  exact (kpL_mem (HP.out.mem_iff.1 this)).1
                obtain ⟨Ba, Ca, Ba2, Ca2, hca⟩ := HCub.out (J.getD a 0) (by omega)
                have HCa := Lib.hid hca
                have KW := Lib.hid (fun u (hu : Below wr.heap.size wr u) => show u.cell? ⟨g, a, none⟩ = some (.slice (some ⟨(A (J.getD a 0)).1, 0, none⟩) n (A (J.getD a 0)).2) ∧ u.cell? ⟨ga, i, none⟩ = some (.slice (some ⟨p1, 0, none⟩) n p2) from
                  ⟨RowB.cell (RowB.below HRJ.out (HB6.out.trans (hu.mono HB6.out.size)) (RowB.lt HRJ.out)) haJ, HCi.out u (HBu.out.trans (hu.mono HBu.out.size))⟩)
                clear hca
                generalize (A (J.getD a 0)).1 = q1 at *
                generalize (A (J.getD a 0)).2 = q2 at *
                go_wp2_with fail
                go_region_held3 (fun u => u.cell? ⟨g, a, none⟩ = some (.slice (some ⟨q1, 0, none⟩) n q2) ∧ u.cell? ⟨ga, i, none⟩ = some (.slice (some ⟨p1, 0, none⟩) n p2)) (first | exact KW.out _ HB7.out | exact KW.out _ (Below.refl _ _).drew | exact KW.out _ (Below.refl _ _)) ((go_at_call 69; refine (l03Before_f q1 0 n q2 Ba (fun _ => 0) Ca Ba2 (fun _ _ => 0) Ca2 (X.getD (J.getD a 0) zF) p1 0 p2 B (fun _ => 0) C B2 (fun _ _ => 0) C2 F _ (HCa.out _ (by first | exact HBu.out.drew | exact HBu.out)) (HCu.out _ (by first | exact HBu.out.drew | exact HBu.out)) (by omega)).mono ?_; rintro e w5 ⟨⟨v5, rfl, hv5⟩, hd5⟩; have HV5 := Lib.hid hv5; have HB7 := Lib.hid (show Below wr.heap.size wr w5 from (by first | exact hd5.below | exact (Below.refl _ _).drew.trans hd5.below)); clear hv5 hd5))
                all_goals
                  have HB8 := Lib.hid (HB6.out.trans (HB7.out.mono HB6.out.size))
                  cases v5
                  · have HNo := Lib.hid (show a < J.length → ¬ ltT n (X.getD (J.getD a 0) zF) F from fun _ h => by have := HV5.out.2 h; cases this)
                    go_wp2_with fail
                    have HB9 := HB8
                    obtain ⟨wz, hwz⟩ : ∃ x, x = w5 := ⟨_, rfl⟩
                    subst hwz
                    have HBz := Lib.hid (HBt.out.trans (HB9.out.mono HBt.out.size))
                    have HOz := Lib.hid (own_trn HO3.out (Trn.of_below (P := fun _ => False) HB9.out) (fun _ _ h => h))
                    have HRz := Lib.hid (row_of_J HOz.out)
                    have e1 := HCi.out wz.drew HBz.out.drew
                    have hk := own_cap HOz.out
                    have hbz : w2.heap.size ≤ wz.heap.size := HBz.out.size
                    have hgz : g < wz.heap.size := RowB.lt HRz.out
                    obtain ⟨ad, had, hv1⟩ : ∃ ad : Addr, (if k = a then (some ⟨g, 0, none⟩ : Option Addr) else some ⟨g, a, none⟩) = some ad ∧ ∀ u', Below wz.heap.size wz u' → ∀ j v, ((J.drop a).map (clR A n))[j]? = some v → u'.cell? (ad.add j) = some v := by
                      by_cases eka : k = a
                      · refine ⟨_, if_pos eka, fun u' hu j v hv => ?_⟩
                        rw [List.drop_eq_nil_of_le (by omega)] at hv
                        cases hv
                      · exact ⟨_, if_neg eka, fun u' hu j v hv => cells_of_J (RowB.below HRz.out hu hgz) (J.drop a) a (by simp; omega) (fun t ht => by simp [List.getD, List.getElem?_drop]) j v hv⟩
                    have HV1 := Lib.hid hv1
                    have HAd := Lib.hid (congrArg (fun q => Value.slice q (J.length - a) (k - a)) had)
                    clear hv1 had
                    have hl1 : ((J.drop a).map (clR A n)).length = J.length - a := by simp
                    have hl2 : ((J.take a).map (clR A n)).length = a := by simp; omega
                    go_region_law (refine stepCells _ (by rfl) _ _ (by rfl) w2.heap.size (.slice (some ⟨wz.heap.size, 0, none⟩) 1 1) 1 [.slice (some ⟨p1, 0, none⟩) n p2] (by rfl) (World.ownsRow_lit wz #[.slice (some ⟨p1, 0, none⟩) n p2] 1 hbz (by decide) rfl) ad (J.length - a) (k - a) ((J.drop a).map (clR A n)) (by exact HAd.out) hl1 (HV1.out _ (below_alloc wz _).drew) (by intro u hu; obtain ⟨t, _, rfl⟩ := List.mem_map.1 hu; rfl) (by omega) (by omega) (by simp; omega) (by intro h; cases h) ?_; intro g9 c9 w9 hown9 hgr9 hat9)
                    obtain ⟨J9, hJ9⟩ : ∃ q, q = i :: J.drop a := ⟨_, rfl⟩
                    have hl9 : 1 + (J.length - a) = J9.length := by rw [hJ9]; simp; omega
                    have hx9 : [.slice (some ⟨p1, 0, none⟩) n p2] ++ (J.drop a).map (clR A n) = J9.map (clR A n) := by rw [hJ9, List.map_cons, HClr.out]; rfl
                    rw [hl9, hx9] at hown9
                    rw [hl9]
                    have hl9b : J9.length ≤ 1000000000 := by omega
                    have HJ9 := Lib.hid hJ9
                    have HO9 := Lib.hid hown9
                    have HT9 := Lib.hid (show Trn (fun k => k = wz.heap.size) (wz.alloc (.cells #[.slice (some ⟨p1, 0, none⟩) n p2] 29)).drew w9 from Trn.of_grown hgr9 (fun k hk => by cases hk; rfl))
                    have HRg := Lib.hid (RowB.trn (RowB.below HRz.out (below_alloc wz _).drew hgz) HT9.out (by show ¬ g = wz.heap.size; omega))
                    have HBn := Lib.hid (Trn.below (HBz.out.trans ((below_alloc wz (.cells #[.slice (some ⟨p1, 0, none⟩) n p2] 29)).drew.mono hbz)) HT9.out (Nat.le_trans hbz (below_alloc wz _).size) (fun k hk he => by have : k = wz.heap.size := he; omega))
                    have hb9 : w2.heap.size ≤ w9.heap.size := HBn.out.size
                    have hg9 : g9 < w9.heap.size := RowB.lt (row_of_J HO9.out)
                    have HV2 := Lib.hid (fun (j : Nat) (v : Value) (hv : ((J.take a).map (clR A n))[j]? = some v) => show (w9.alloc (.cells #[] 29)).cell? ((⟨g, 0, none⟩ : Addr).add j) = some v from cells_of_J (RowB.below HRg.out (below_alloc w9 _) (RowB.lt HRg.out)) (J.take a) 0 (by simp; omega) (fun t ht => by
                      have : t < a := by simp at ht; omega
                      simp [List.getD, List.getElem?_take, this]) j v hv)
                    clear hown9 hgr9 hat9 hl9 hx9 hJ9
                    go_wp2_with (at_builtin; first | (have q9 := HO10.out; clear q9; refine pushCells _ rfl _ _ rfl w2.heap.size (.slice (some ⟨g10, 0, none⟩) a c10) a ((J.take a).map (clR A n)) rfl HO10.out ⟨g9, 0, none⟩ J9.length c9 (J9.map (clR A n)) rfl (by simp) HV3.out (by intro u hu; obtain ⟨t, _, rfl⟩ := List.mem_map.1 hu; rfl) (by omega) hl9b (Nat.le_trans hb9 hw10) (by intro h; cases h) ?_; intro g11 c11 w11 hown11 hgr11 hat11; have HO11 := Lib.hid hown11; have HT11 := Lib.hid (show Trn (fun k => w2.heap.size ≤ k) w10 w11 from Trn.of_grown hgr11 (fun k hk => by cases hk; exact hg10)); clear hown11 hgr11 hat11) | (refine pushCells _ rfl _ _ rfl w2.heap.size (.slice (some ⟨w9.heap.size, 0, none⟩) 0 0) 0 [] rfl (World.ownsRow_lit w9 #[] 0 hb9 (by decide) rfl) ⟨g, 0, none⟩ a k ((J.take a).map (clR A n)) rfl hl2 HV2.out (by intro u hu; obtain ⟨t, _, rfl⟩ := List.mem_map.1 hu; rfl) (by omega) (by omega) (Nat.le_trans hb9 (below_alloc w9 _).size) (by intro h; cases h) ?_; intro g10 c10 w10 hown10 hgr10 hat10; simp only [Nat.zero_add, List.nil_append] at hown10 ⊢; have HO10 := Lib.hid hown10; have HT10 := Lib.hid (show Trn (fun k => k = w9.heap.size) (w9.alloc (.cells #[] 29)) w10 from Trn.of_grown hgr10 (fun k hk => by cases hk; rfl)); have hw10 : w9.heap.size ≤ w10.heap.size := Nat.le_trans (below_alloc w9 _).size HT10.out.size; have hg10 : w2.heap.size ≤ g10 := (by rcases hat10 with h | h <;> (cases h; first | exact hb9 | exact Nat.le_trans hb9 (below_alloc w9 _).size)); have HV3 := Lib.hid (fun (j : Nat) (v : Value) (hv : (J9.map (clR A n))[j]? = some v) => show w10.cell? ((⟨g9, 0, none⟩ : Addr).add j) = some v from cells_of_J (RowB.trn (RowB.below (row_of_J HO9.out) (below_alloc w9 _) hg9) HT10.out (by show ¬ g9 = w9.heap.size; omega)) J9 0 (by omega) (fun t ht => by rw [Nat.zero_add]) j v hv); clear hown10 hgr10 hat10))
                    have HLn := Lib.hid (show a + J9.length = (insJ J a i).length by rw [(insJ_perm J a i).length_eq, HJ9.out]; simp; omega)
                    have HXn := Lib.hid (show (J.take a).map (clR A n) ++ J9.map (clR A n) = (insJ J a i).map (clR A n) by unfold insJ; rw [List.map_append, HJ9.out])
                    have HBl := Lib.hid (Trn.below (HBn.out.trans ((below_alloc w9 (.cells #[] 29)).mono hb9)) HT10.out (Nat.le_trans hb9 (below_alloc w9 _).size) (fun k hk he => by have : k = w9.heap.size := he; omega))
                    have HBk := Lib.hid (Trn.below HBl.out HT11.out (Nat.le_trans hb9 hw10) (fun k hk he => by omega))
                    refine ⟨⟨i + 1, insJ J a i, g11, c11, by omega, by go_num, by rw [HLn.out], ?_, ?_, ?_, HBk.out⟩, by simp [intOf]; omega⟩
                    · have h9 := HO11.out
                      rw [HLn.out, HXn.out] at h9
                      exact h9
                    · rw [HKp.out]; exact (insJ_perm J a i).trans (HP.out.append_right [i])
                    · exact SrtJ.ins HS.out ha (fun s hs => by rw [← HF.out]; exact HLt.out s hs) (fun h => by rw [← HF.out]; exact HNo.out h)
                  · go_wp2_with fail
                    refine ⟨⟨a + 1, by omega, by go_num, fun s hs => ?_, HB8.out⟩, by simp [intOf]; omega⟩
                    by_cases e : s = a
                    · rw [e]; exact HV5.out.1 rfl
                    · exact HLt.out s (by omega)
              · have HNo := Lib.hid (show a < J.length → ¬ ltT n (X.getD (J.getD a 0) zF) F from fun h => absurd h haJ)
                have HB8 := HB6
                go_wp2_with fail
                go_quiet (fail)
                go_wp2_with fail
                · have HB9 := Lib.hid (below_drewN HB6.out nq)
                  obtain ⟨wz, hwz⟩ : ∃ x, x = wr.drewN nq := ⟨_, rfl⟩
                  rw [← hwz] at HB9 ⊢
                  clear hwz
                  (
                    have HBz := Lib.hid (HBt.out.trans (HB9.out.mono HBt.out.size))
                    have HOz := Lib.hid (own_trn HO3.out (Trn.of_below (P := fun _ => False) HB9.out) (fun _ _ h => h))
                    have HRz := Lib.hid (row_of_J HOz.out)
                    have e1 := HCi.out wz.drew HBz.out.drew
                    have hk := own_cap HOz.out
                    have hbz : w2.heap.size ≤ wz.heap.size := HBz.out.size
                    have hgz : g < wz.heap.size := RowB.lt HRz.out
                    obtain ⟨ad, had, hv1⟩ : ∃ ad : Addr, (if k = a then (some ⟨g, 0, none⟩ : Option Addr) else some ⟨g, a, none⟩) = some ad ∧ ∀ u', Below wz.heap.size wz u' → ∀ j v, ((J.drop a).map (clR A n))[j]? = some v → u'.cell? (ad.add j) = some v := by
                      by_cases eka : k = a
                      · refine ⟨_, if_pos eka, fun u' hu j v hv => ?_⟩
                        rw [List.drop_eq_nil_of_le (by omega)] at hv
                        cases hv
                      · exact ⟨_, if_neg eka, fun u' hu j v hv => cells_of_J (RowB.below HRz.out hu hgz) (J.drop a) a (by simp; omega) (fun t ht => by simp [List.getD, List.getElem?_drop]) j v hv⟩
                    have HV1 := Lib.hid hv1
                    have HAd := Lib.hid (congrArg (fun q => Value.slice q (J.length - a) (k - a)) had)
                    clear hv1 had
                    have hl1 : ((J.drop a).map (clR A n)).length = J.length - a := by simp
                    have hl2 : ((J.take a).map (clR A n)).length = a := by simp; omega
                    go_region_law (refine stepCells _ (by rfl) _ _ (by rfl) w2.heap.size (.slice (some ⟨wz.heap.size, 0, none⟩) 1 1) 1 [.slice (some ⟨p1, 0, none⟩) n p2] (by rfl) (World.ownsRow_lit wz #[.slice (some ⟨p1, 0, none⟩) n p2] 1 hbz (by decide) rfl) ad (J.length - a) (k - a) ((J.drop a).map (clR A n)) (by exact HAd.out) hl1 (HV1.out _ (below_alloc wz _).drew) (by intro u hu; obtain ⟨t, _, rfl⟩ := List.mem_map.1 hu; rfl) (by omega) (by omega) (by simp; omega) (by intro h; cases h) ?_; intro g9 c9 w9 hown9 hgr9 hat9)
                    obtain ⟨J9, hJ9⟩ : ∃ q, q = i :: J.drop a := ⟨_, rfl⟩
                    have hl9 : 1 + (J.length - a) = J9.length := by rw [hJ9]; simp; omega
                    have hx9 : [.slice (some ⟨p1, 0, none⟩) n p2] ++ (J.drop a).map (clR A n) = J9.map (clR A n) := by rw [hJ9, List.map_cons, HClr.out]; rfl
                    rw [hl9, hx9] at hown9
                    rw [hl9]
                    have hl9b : J9.length ≤ 1000000000 := by omega
                    have HJ9 := Lib.hid hJ9
                    have HO9 := Lib.hid hown9
                    have HT9 := Lib.hid (show Trn (fun k => k = wz.heap.size) (wz.alloc (.cells #[.slice (some ⟨p1, 0, none⟩) n p2] 29)).drew w9 from Trn.of_grown hgr9 (fun k hk => by cases hk; rfl))
                    have HRg := Lib.hid (RowB.trn (RowB.below HRz.out (below_alloc wz _).drew hgz) HT9.out (by show ¬ g = wz.heap.size; omega))
                    have HBn := Lib.hid (Trn.below (HBz.out.trans ((below_alloc wz (.cells #[.slice (some ⟨p1, 0, none⟩) n p2] 29)).drew.mono hbz)) HT9.out (Nat.le_trans hbz (below_alloc wz _).size) (fun k hk he => by have : k = wz.heap.size := he; omega))
                    have hb9 : w2.heap.size ≤ w9.heap.size := HBn.out.size
                    have hg9 : g9 < w9.heap.size := RowB.lt (row_of_J HO9.out)
                    have HV2 := Lib.hid (fun (j : Nat) (v : Value) (hv : ((J.take a).map (clR A n))[j]? = some v) => show (w9.alloc (.cells #[] 29)).cell? ((⟨g, 0, none⟩ : Addr).add j) = some v from cells_of_J (RowB.below HRg.out (below_alloc w9 _) (RowB.lt HRg.out)) (J.take a) 0 (by simp; omega) (fun t ht => by
                      have : t < a := by simp at ht; omega
                      simp [List.getD, List.getElem?_take, this]) j v hv)
                    clear hown9 hgr9 hat9 hl9 hx9 hJ9
                    go_wp2_with (at_builtin; first | (have q9 := HO10.out; clear q9; refine pushCells _ rfl _ _ rfl w2.heap.size (.slice (some ⟨g10, 0, none⟩) a c10) a ((J.take a).map (clR A n)) rfl HO10.out ⟨g9, 0, none⟩ J9.length c9 (J9.map (clR A n)) rfl (by simp) HV3.out (by intro u hu; obtain ⟨t, _, rfl⟩ := List.mem_map.1 hu; rfl) (by omega) hl9b (Nat.le_trans hb9 hw10) (by intro h; cases h) ?_; intro g11 c11 w11 hown11 hgr11 hat11; have HO11 := Lib.hid hown11; have HT11 := Lib.hid (show Trn (fun k => w2.heap.size ≤ k) w10 w11 from Trn.of_grown hgr11 (fun k hk => by cases hk; exact hg10)); clear hown11 hgr11 hat11) | (refine pushCells _ rfl _ _ rfl w2.heap.size (.slice (some ⟨w9.heap.size, 0, none⟩) 0 0) 0 [] rfl (World.ownsRow_lit w9 #[] 0 hb9 (by decide) rfl) ⟨g, 0, none⟩ a k ((J.take a).map (clR A n)) rfl hl2 HV2.out (by intro u hu; obtain ⟨t, _, rfl⟩ := List.mem_map.1 hu; rfl) (by omega) (by omega) (Nat.le_trans hb9 (below_alloc w9 _).size) (by intro h; cases h) ?_; intro g10 c10 w10 hown10 hgr10 hat10; simp only [Nat.zero_add, List.nil_append] at hown10 ⊢; have HO10 := Lib.hid hown10; have HT10 := Lib.hid (show Trn (fun k => k = w9.heap.size) (w9.alloc (.cells #[] 29)) w10 from Trn.of_grown hgr10 (fun k hk => by cases hk; rfl)); have hw10 : w9.heap.size ≤ w10.heap.size := Nat.le_trans (below_alloc w9 _).size HT10.out.size; have hg10 : w2.heap.size ≤ g10 := (by rcases hat10 with h | h <;> (cases h; first | exact hb9 | exact Nat.le_trans hb9 (below_alloc w9 _).size)); have HV3 := Lib.hid (fun (j : Nat) (v : Value) (hv : (J9.map (clR A n))[j]? = some v) => show w10.cell? ((⟨g9, 0, none⟩ : Addr).add j) = some v from cells_of_J (RowB.trn (RowB.below (row_of_J HO9.out) (below_alloc w9 _) hg9) HT10.out (by show ¬ g9 = w9.heap.size; omega)) J9 0 (by omega) (fun t ht => by rw [Nat.zero_add]) j v hv); clear hown10 hgr10 hat10))
                    have HLn := Lib.hid (show a + J9.length = (insJ J a i).length by rw [(insJ_perm J a i).length_eq, HJ9.out]; simp; omega)
                    have HXn := Lib.hid (show (J.take a).map (clR A n) ++ J9.map (clR A n) = (insJ J a i).map (clR A n) by unfold insJ; rw [List.map_append, HJ9.out])
                    have HBl := Lib.hid (Trn.below (HBn.out.trans ((below_alloc w9 (.cells #[] 29)).mono hb9)) HT10.out (Nat.le_trans hb9 (below_alloc w9 _).size) (fun k hk he => by have : k = w9.heap.size := he; omega))
                    have HBk := Lib.hid (Trn.below HBl.out HT11.out (Nat.le_trans hb9 hw10) (fun k hk he => by omega))
                    refine ⟨⟨i + 1, insJ J a i, g11, c11, by omega, by go_num, by rw [HLn.out], ?_, ?_, ?_, HBk.out⟩, by simp [intOf]; omega⟩
                    · have h9 := HO11.out
                      rw [HLn.out, HXn.out] at h9
                      exact h9
                    · rw [HKp.out]; exact (insJ_perm J a i).trans (HP.out.append_right [i])
                    · exact SrtJ.ins HS.out ha (fun s hs => by rw [← HF.out]; exact HLt.out s hs) (fun h => by rw [← HF.out]; exact HNo.out h)
                  )
    · obtain rfl : i = M := by omega
      have hlt := RowB.lt (row_of_J HO.out)
      have hg : w2.heap.size ≤ g := by
        rcases HO.out.2 with ⟨hv, -⟩ | ⟨g', cap, cur, hv, h1, -⟩
        · cases hv
        · cases hv; exact h1
      have HLe := Lib.hid (HL2.out.trn (Trn.of_below (P := fun _ => False) HB.out) (fun _ _ h => h) (fun _ h => h.elim))
      go_wp2_with fail
      go_ret
      rw [← HXe.out, ← HMl.out]
      refine ⟨g, k, ga, ka, A, Lo, Hi, J, rfl, ?_, HP.out, HS.out, row_of_J HO.out, Nat.le_trans HB2.out.size hg, fun t ht => Nat.le_trans (HHi.out t ht) hg, HB2.out.trans (HB.out.mono HB2.out.size)⟩
      rw [HMl.out]
      exact HLe.out
end Go.Proofs.Ytmdmojklagmmiaa
/- AllRings: the list is the same for both. -/
namespace Go.Proofs.Ytmdmojklagmmiaa
open Go.RowKit
set_option linter.unusedSimpArgs false
set_option linter.unusedVariables false
abbrev Tb := Nat → Nat → Nat → Int
open Classical in
noncomputable def clip (n : Nat) (F : Tb) : Tb := fun i j k => if i < n ∧ j < n ∧ k < n then F i j k else 0
theorem clip_eq {n : Nat} {F G : Tb} (h : eqT n F G) : clip n F = clip n G := by
  funext i j k
  unfold clip
  by_cases e : i < n ∧ j < n ∧ k < n
  · rw [if_pos e, if_pos e]; exact h i j k e.1 e.2.1 e.2.2
  · rw [if_neg e, if_neg e]
theorem clip_at (n : Nat) (F : Tb) : eqT n F (clip n F) := fun i j k hi hj hk => by unfold clip; rw [if_pos ⟨hi, hj, hk⟩]
theorem clip_clip (n : Nat) (F : Tb) : clip n (clip n F) = clip n F := (clip_eq (clip_at n F)).symm
theorem SrtZ.head {n : Nat} {x : Tb} {X : List Tb} (h : SrtZ n (x :: X)) {z : Tb} (hz : z ∈ X) : ¬ ltT n z x := by
  obtain ⟨t, ht, e⟩ := List.getElem_of_mem hz
  have := h 0 (t + 1) (by omega) (by simp; omega)
  rw [← e]
  simpa [List.getD, ht] using this
theorem SrtZ.tail {n : Nat} {x : Tb} {X : List Tb} (h : SrtZ n (x :: X)) : SrtZ n X := fun i j hij hj => by
  have := h (i + 1) (j + 1) (by omega) (by simp; omega)
  simpa [List.getD] using this
theorem sorted_one (n : Nat) : ∀ (X Y : List Tb), X.Perm Y → (∀ x, x ∈ X → clip n x = x) → SrtZ n X → SrtZ n Y → X = Y
  | [], Y, h, _, _, _ => (List.Perm.nil_eq h)
  | x :: X, [], h, _, _, _ => by have := h.length_eq; simp at this
  | x :: X, y :: Y, h, hc, hX, hY => by
    have e1 : ¬ ltT n x y := by
      rcases List.mem_cons.1 (h.mem_iff.1 List.mem_cons_self) with e | e
      · rw [e]; exact eqT_not fun _ _ _ _ _ _ => rfl
      · exact hY.head e
    have hy : y ∈ x :: X := h.mem_iff.2 List.mem_cons_self
    have e2 : ¬ ltT n y x := by
      rcases List.mem_cons.1 hy with e | e
      · rw [e]; exact eqT_not fun _ _ _ _ _ _ => rfl
      · exact hX.head e
    have e : x = y := by rw [← hc x List.mem_cons_self, ← hc y hy]; exact clip_eq (ltT_tri e1 e2)
    subst e
    rw [sorted_one n X Y h.cons_inv (fun z hz => hc z (List.mem_cons_of_mem _ hz)) hX.tail hY.tail]
theorem SrtZ.clip {n : Nat} {X : List Tb} (h : SrtZ n X) : SrtZ n (X.map (clip n)) := fun i j hij hj hlt => by
  rw [List.length_map] at hj
  have hi : i < X.length := by omega
  refine h i j hij hj (ltT_cong hlt ?_ ?_)
  · intro a b c ha hb hc; simp only [List.getD, List.getElem?_map, List.getElem?_eq_getElem hj, Option.map_some, Option.getD_some]; exact (clip_at n _ a b c ha hb hc).symm
  · intro a b c ha hb hc; simp only [List.getD, List.getElem?_map, List.getElem?_eq_getElem hi, Option.map_some, Option.getD_some]; exact (clip_at n _ a b c ha hb hc).symm
theorem sorted_two {n : Nat} {X Y : List Tb} (h : X.Perm Y) (hX : SrtZ n X) (hY : SrtZ n Y) : ∀ t, t < X.length → eqT n (X.getD t zF) (Y.getD t zF) := fun t ht => by
  have e := sorted_one n (X.map (clip n)) (Y.map (clip n)) (h.map _) (fun x hx => by obtain ⟨z, _, rfl⟩ := List.mem_map.1 hx; exact clip_clip n z) hX.clip hY.clip
  have hy : t < Y.length := by rw [← h.length_eq]; exact ht
  have e2 : (X.map (clip n))[t]? = (Y.map (clip n))[t]? := by rw [e]
  rw [List.getElem?_map, List.getElem?_map, List.getElem?_eq_getElem ht, List.getElem?_eq_getElem hy] at e2
  simp only [Option.map_some, Option.some.injEq] at e2
  simp only [List.getD, List.getElem?_eq_getElem ht, List.getElem?_eq_getElem hy, Option.getD_some]
  intro i j k hi hj hk
  have a1 := clip_at n (X[t]) i j k hi hj hk
  have a2 := clip_at n (Y[t]) i j k hi hj hk
  rw [a1, a2, e2]
theorem kpL_map (n : Nat) (Z : List Tb) : (kpL n Z Z.length).map (fun t => Z.getD t zF) = Z.filter (ownB n) := by
  have h : (List.range Z.length).map (fun t => Z.getD t zF) = Z := by
    apply List.ext_getElem
    · simp
    · intro i h1 h2; simp [List.getD, h2]
  conv => rhs; rw [← h]
  rw [List.filter_map]
  rfl
theorem kpL_nodup (n : Nat) (Z : List Tb) (j : Nat) : (kpL n Z j).Nodup := List.nodup_range.filter _
theorem OwnS.cong {w : World} {lo hi : Nat} {a : Option Addr} {N n : Nat} {F G : Nat → Tb} (h : OwnS w lo hi a N n F) (e : ∀ t, t < N → eqT n (F t) (G t)) : OwnS w lo hi a N n G := by
  rcases h with h | ⟨b, A, Lo, Hi, ha, h1, h2, hr, hc, hd⟩
  · exact Or.inl h
  · exact Or.inr ⟨b, A, Lo, Hi, ha, h1, h2, hr, fun t ht => ⟨(hc t ht).1, (hc t ht).2.1, (hc t ht).2.2.1, cubO_eqT (hc t ht).2.2.2 (e t ht)⟩, hd⟩
theorem nodup_ne {K : List Nat} (h : K.Nodup) {i j : Nat} (hij : i ≠ j) (hi : i < K.length) (hj : j < K.length) : K.getD i 0 ≠ K.getD j 0 := by
  simp only [List.getD, List.getElem?_eq_getElem hi, List.getElem?_eq_getElem hj, Option.getD_some]
  have hp := List.pairwise_iff_getElem.1 h
  rcases Nat.lt_or_gt_of_ne hij with h1 | h1
  · exact hp i j hi hj h1
  · exact fun e => hp j i hj hi h1 e.symm
theorem getD_mem {K : List Nat} {i : Nat} (hi : i < K.length) : K.getD i 0 ∈ K := by
  rw [List.getD_eq_getElem?_getD, List.getElem?_eq_getElem hi]; exact List.getElem_mem hi
theorem ownS_of {w : World} {lo g n : Nat} {A : Nat → Nat × Nat} {Lo Hi : Nat → Nat} {X : List Tb} {K : List Nat} (hrow : RowB w 29 g K.length (fun s => clR A n (K.getD s 0))) (hK : ∀ t, t ∈ K → t < X.length) (hnd : K.Nodup) (hlo : lo ≤ g)
    (hcub : ∀ t, t < X.length → lo ≤ Lo t ∧ Hi t ≤ w.heap.size ∧ ¬ (Lo t ≤ g ∧ g < Hi t) ∧ CubO w (Lo t) (Hi t) (A t).1 n (kF n) (kG n) (X.getD t zF)) (hdis : ∀ i j, i ≠ j → i < X.length → j < X.length → Hi i ≤ Lo j ∨ Hi j ≤ Lo i) :
    OwnS w lo w.heap.size (some ⟨g, 0, none⟩) K.length n (fun s => X.getD (K.getD s 0) zF) :=
  Or.inr ⟨g, fun s => A (K.getD s 0), fun s => Lo (K.getD s 0), fun s => Hi (K.getD s 0), rfl, hlo, hrow.lt, hrow, fun t ht => hcub _ (hK _ (getD_mem ht)), fun i j hij hi hj => hdis _ _ (nodup_ne hnd hij hi hj) (hK _ (getD_mem hi)) (hK _ (getD_mem hj))⟩
/-- a sorted list of the tables that are kept -/
def IsAll (n m : Nat) (Y : List Tb) : Prop := Y.Perm ((allX n m).filter (ownB n)) ∧ SrtZ n Y
open Classical in
noncomputable def alY (n m : Nat) : List Tb := if h : ∃ Y, IsAll n m Y then h.choose else []
theorem alY_is {n m : Nat} {Y : List Tb} (h : IsAll n m Y) : IsAll n m (alY n m) := by
  unfold alY
  rw [dif_pos ⟨Y, h⟩]
  exact (⟨Y, h⟩ : ∃ Y, IsAll n m Y).choose_spec
theorem alY_of {n m : Nat} {Y : List Tb} (h : IsAll n m Y) : Y.length = (alY n m).length ∧ ∀ t, t < Y.length → eqT n (Y.getD t zF) ((alY n m).getD t zF) :=
  have h2 := alY_is h
  have hp := h.1.trans h2.1.symm
  ⟨hp.length_eq, sorted_two hp h.2 h2.2⟩
noncomputable def alN (n m : Int) : Nat := if lcB n m then (alY n.toNat m.toNat).length else 0
def alD (n : Int) : Nat := if n ≤ 3 then n.toNat else 0
noncomputable def alF (n m : Int) (t : Nat) : Tb := (alY n.toNat m.toNat).getD t zF
theorem map_at {K : List Nat} {X : List Tb} {t : Nat} (ht : t < K.length) : (K.map (fun s => X.getD s zF)).getD t zF = X.getD (K.getD t 0) zF := by
  simp only [List.getD, List.getElem?_map, List.getElem?_eq_getElem ht, Option.map_some, Option.getD_some]
end Go.Proofs.Ytmdmojklagmmiaa
/- AllRings of both. -/
namespace Go.Proofs.Ytmdmojklagmmiaa
open Go.RowKit
set_option linter.unusedSimpArgs false
set_option linter.unusedVariables false
theorem rgsRes_none {u w' : World} {k0 k1 : Int} (hb : lcB k0 k1 = false) (h : Below u.heap.size u w') : RgsRes u (alN k0 k1) (alD k0) (alF k0 k1) (lcC k0 k1) (.returned (.tuple #[.slice none 0 0, .int .i64 2])) w' := by
  have h1 : alN k0 k1 = 0 := by unfold alN; rw [hb]; rfl
  have h2 : lcC k0 k1 = 2 := by unfold lcC; rw [hb]; rfl
  rw [h1, h2]
  exact ⟨none, 0, rfl, Or.inl rfl, h⟩
theorem rgsRes_some {u w' : World} {n m : Nat} {g k : Nat} {Y : List Tb} (h3 : n ≤ 3) (hb : lcB n m = true) (hY : IsAll n m Y) (ho : OwnS w' u.heap.size w'.heap.size (some ⟨g, 0, none⟩) Y.length n (fun t => Y.getD t zF)) (h : Below u.heap.size u w') : RgsRes u (alN n m) (alD n) (alF n m) (lcC n m) (.returned (.tuple #[.slice (some ⟨g, 0, none⟩) Y.length k, .int .i64 0])) w' := by
  have h1 : alN n m = Y.length := by unfold alN; rw [hb]; exact (alY_of hY).1.symm
  have h2 : lcC n m = 0 := by unfold lcC; rw [hb]; rfl
  have h4 : alD n = n := by unfold alD; rw [if_pos (by omega)]; rfl
  rw [h1, h2, h4]
  exact ⟨_, k, rfl, ho.cong (alY_of hY).2, h⟩
set_option maxHeartbeats 4000000 in
theorem implAll_f (k0 k1 : Int) (w : World) (_ : (Lit.int .i64 k0).wf = true) (_ : (Lit.int .i64 k1).wf = true) : Calls Try.prog 23 #[.int .i64 k0, .int .i64 k1] w (RgsRes w (alN k0 k1) (alD k0) (alF k0 k1) (lcC k0 k1)) := by
  have HC := Lib.hid (listCode_f k0 k1 w)
  cases hb : lcB k0 k1
  · have HE := Lib.hid (fun w' (h : Below w.heap.size w w') => rgsRes_none hb h)
    have HL := Lib.hid (show lcC k0 k1 = 2 by unfold lcC; rw [hb]; rfl)
    rw [HL.out] at HC
    clear hb
    go_enter Try.func23, Try.ntmps23
    go_wp2_with fail
    refine HC.out.mono ?_
    rintro e w' ⟨rfl, rfl⟩
    go_wp2_with fail
    go_ret2
    exact HE.out _ (Below.refl _ _)
  · have hc := of_decide_eq_true hb
    have HL := Lib.hid (show lcC k0 k1 = 0 by unfold lcC; rw [hb]; rfl)
    rw [HL.out] at HC
    obtain ⟨n, rfl⟩ : ∃ n : Nat, k0 = n := ⟨k0.toNat, by omega⟩
    obtain ⟨m, rfl⟩ : ∃ m : Nat, k1 = m := ⟨k1.toNat, by omega⟩
    have HT := Lib.hid (ringTables_f n m w (by omega) (by omega) (by omega))
    have h1 : 1 ≤ n := by omega
    have h3 : n ≤ 3 := by omega
    have hm : m ≤ 4 := by omega
    have Hb := Lib.hid hb
    clear hb hc
    go_enter Try.func23, Try.ntmps23
    go_wp2_with fail
    refine HC.out.mono ?_
    rintro e w' ⟨rfl, rfl⟩
    go_wp2_with fail
    refine HT.out.mono ?_
    rintro e w' ⟨g, k, Z, A, Lo, Hi, rfl, hp, hs, hl, hb⟩
    have HB := Lib.hid hb
    have HP := Lib.hid hp
    have HS := Lib.hid hs
    have HLs := Lib.hid hl
    have hZl : Z.length ≤ 1000000000 := by
      rw [hp.length_eq]
      have h8 := rdL_len (n := n) (m := m) h3 hm (per n)
      have h9 := per3_len h1 h3
      unfold allX; omega
    have HD := Lib.hid (deleteFunc_f _ _ g k n w' Z A Lo Hi hl h1 (by omega) hZl)
    clear hb hp hs hl HT
    go_wp2_with fail
    refine HD.out.mono ?_
    rintro e w2 ⟨rfl, hr, ht⟩
    have HR := Lib.hid hr
    have HTn := Lib.hid ht
    clear hr ht HD
    have hgb : w.heap.size ≤ g := by
      rcases HLs.out.own.2 with ⟨hv, -⟩ | ⟨g', cap, cur, hv, h1, -⟩
      · cases hv
      · cases hv; exact h1
    have HY := Lib.hid (show IsAll n m ((kpL n Z Z.length).map (fun t => Z.getD t zF)) from by
      refine ⟨?_, ?_⟩
      · rw [kpL_map]; exact HP.out.filter _
      · intro i j hij hj
        rw [List.length_map] at hj
        rw [map_at hj, map_at (show i < _ by omega)]
        have hpw : (kpL n Z Z.length).Pairwise (· < ·) := List.pairwise_lt_range.filter _
        have hlt := List.pairwise_iff_getElem.1 hpw i j (by omega) hj hij
        refine HS.out _ _ ?_ (kpL_mem (getD_mem hj)).1
        simp only [List.getD, List.getElem?_eq_getElem hj, List.getElem?_eq_getElem (show i < (kpL n Z Z.length).length by omega), Option.getD_some]
        exact hlt)
    have HBt := Lib.hid (show Below w.heap.size w w2 from Trn.below HB.out HTn.out HB.out.size (fun k hk he => by have : k = g := he; omega))
    have HOw := Lib.hid (show OwnS w2 w.heap.size w2.heap.size (some ⟨g, 0, none⟩) ((kpL n Z Z.length).map (fun t => Z.getD t zF)).length n (fun t => ((kpL n Z Z.length).map (fun t => Z.getD t zF)).getD t zF) from by
      rw [List.length_map]
      refine OwnS.cong (ownS_of HR.out (fun t ht => (kpL_mem ht).1) (kpL_nodup _ _ _) hgb (fun t ht => ⟨(HLs.out.cub t ht).1, Nat.le_trans (HLs.out.cub t ht).2.1 HTn.out.size, HLs.out.off g rfl t ht, (HLs.out.cub t ht).2.2.trn HTn.out (fun q hq hk => HLs.out.off g rfl t ht (hq ▸ hk))⟩) HLs.out.dis) (fun t ht => by rw [map_at ht]; exact fun _ _ _ _ _ _ => rfl))
    have HLn := Lib.hid (show (kpL n Z Z.length).length = ((kpL n Z Z.length).map (fun t => Z.getD t zF)).length by rw [List.length_map])
    have HF := Lib.hid (rgsRes_some (k := k) h3 Hb.out HY.out HOw.out HBt.out)
    rw [← HLn.out] at HF
    go_wp2_with fail
    go_ret2
    exact HF.out
set_option maxHeartbeats 4000000 in
theorem specAll_f (k0 k1 : Int) (w : World) (_ : (Lit.int .i64 k0).wf = true) (_ : (Lit.int .i64 k1).wf = true) : Calls Try.prog 22 #[.int .i64 k0, .int .i64 k1] w (RgsRes w (alN k0 k1) (alD k0) (alF k0 k1) (lcC k0 k1)) := by
  have H1 := Lib.hid (l01In_any k0 1 3 w)
  have H2 := Lib.hid (l01In_any k1 0 4 w)
  by_cases c1 : 1 ≤ k0 ∧ k0 ≤ 3
  · have hb1 : inB 1 3 k0 = true := by simp [inB]; omega
    rw [hb1] at H1
    by_cases c2 : 0 ≤ k1 ∧ k1 ≤ 4
    · have hb2 : inB 0 4 k1 = true := by simp [inB]; omega
      rw [hb2] at H2
      have hb : lcB k0 k1 = true := decide_eq_true ⟨c1, c2⟩
      obtain ⟨n, rfl⟩ : ∃ n : Nat, k0 = n := ⟨k0.toNat, by omega⟩
      obtain ⟨m, rfl⟩ : ∃ m : Nat, k1 = m := ⟨k1.toNat, by omega⟩
      have HT := Lib.hid (l07List_f n m w (by omega) (by omega) (by omega))
      have h3 : n ≤ 3 := by omega
      have Hb := Lib.hid hb
      clear hb hb1 hb2 c1 c2
      go_enter Try.func22, Try.ntmps22
      go_wp2_with fail
      refine H1.out.mono ?_
      rintro e w' ⟨rfl, rfl⟩
      go_wp2_with fail
      refine H2.out.mono ?_
      rintro e w' ⟨rfl, rfl⟩
      go_wp2_with fail
      refine HT.out.mono ?_
      rintro e w' ⟨g, k, ga, ka, A, Lo, Hi, J, rfl, hl, hp, hs, hr, hg, hh, hb⟩
      have HF := Lib.hid (rgsRes_some (k := k) (Y := J.map (fun t => (allX n m).getD t zF)) h3 Hb.out (by
        refine ⟨?_, ?_⟩
        · have := hp.map (fun t => (allX n m).getD t zF)
          rw [kpL_map] at this
          exact this
        · intro i j hij hj
          rw [List.length_map] at hj
          rw [map_at hj, map_at (show i < _ by omega)]
          exact hs i j hij hj) (by
        rw [List.length_map]
        refine OwnS.cong (ownS_of hr (fun t ht => (kpL_mem (hp.mem_iff.1 ht)).1) (hp.nodup_iff.2 (kpL_nodup _ _ _)) hg (fun t ht => ⟨(hl.cub t ht).1, (hl.cub t ht).2.1, (fun h => by have := hh t ht; omega), (hl.cub t ht).2.2⟩) hl.dis) (fun t ht => by rw [map_at ht]; exact fun _ _ _ _ _ _ => rfl)) hb)
      rw [List.length_map] at HF
      clear hl hp hs hr hg hh hb HT
      go_wp2_with fail
      go_ret2
      exact HF.out
    · have hb2 : inB 0 4 k1 = false := by simp [inB]; omega
      rw [hb2] at H2
      have hb : lcB k0 k1 = false := decide_eq_false (fun h => c2 h.2)
      have HE := Lib.hid (fun w' (h : Below w.heap.size w w') => rgsRes_none hb h)
      clear hb hb1 hb2 c1 c2
      go_enter Try.func22, Try.ntmps22
      go_wp2_with fail
      refine H1.out.mono ?_
      rintro e w' ⟨rfl, rfl⟩
      go_wp2_with fail
      refine H2.out.mono ?_
      rintro e w' ⟨rfl, rfl⟩
      go_wp2_with fail
      go_ret2
      exact HE.out _ (Below.refl _ _)
  · have hb1 : inB 1 3 k0 = false := by simp [inB]; omega
    rw [hb1] at H1
    have hb : lcB k0 k1 = false := decide_eq_false (fun h => c1 h.1)
    have HE := Lib.hid (fun w' (h : Below w.heap.size w w') => rgsRes_none hb h)
    clear hb hb1 c1 H2
    go_enter Try.func22, Try.ntmps22
    go_wp2_with fail
    refine H1.out.mono ?_
    rintro e w' ⟨rfl, rfl⟩
    go_wp2_with fail
    go_ret2
    exact HE.out _ (Below.refl _ _)
theorem all_le (k0 k1 : Int) (h0 : (Lit.int .i64 k0).wf = true) : alD k0 ≤ 3 := by
  unfold alD
  split
  · omega
  · omega
theorem alN_le (k0 k1 : Int) : alN k0 k1 ≤ 1000000 := by
  unfold alN
  split
  case isFalse => omega
  case isTrue h =>
    have hc := of_decide_eq_true h
    have h1 := rdL_len (n := k0.toNat) (m := k1.toNat) (by omega) (by omega) (per k0.toNat)
    have h2 := per3_len (n := k0.toNat) (by omega) (by omega)
    by_cases e : ∃ Y, IsAll k0.toNat k1.toNat Y
    · obtain ⟨Y, hY⟩ := e
      rw [(alY_is hY).1.length_eq]
      have h3 := List.length_filter_le (ownB k0.toNat) (allX k0.toNat k1.toNat)
      unfold allX at h3 ⊢
      omega
    · unfold alY; rw [dif_neg e]; simp
theorem sum3_kk {n : Nat} (h : n ≤ 3) : sum3 (kF n) (kG n) n ≤ 27 := by
  rcases (show n = 0 ∨ n = 1 ∨ n = 2 ∨ n = 3 by omega) with rfl | rfl | rfl | rfl <;> decide
end Go.Proofs.Ytmdmojklagmmiaa
