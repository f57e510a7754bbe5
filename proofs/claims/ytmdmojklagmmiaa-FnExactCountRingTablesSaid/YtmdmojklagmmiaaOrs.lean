/- All permutations: of the specification. -/
import Derived.Test.YtmdmojklagmmiaaImg
import Derived.Test.YtmdmojklagmmiaaHas
namespace Go.Proofs.Ytmdmojklagmmiaa
open Go.RowKit
set_option linter.unusedSimpArgs false
theorem Acc.cong {w0 w : World} {t : TypeId} {v : Value} {n : Nat} {f g : Nat → Int} (h : Acc w0 w t v n f) (e : ∀ i, i < n → f i = g i) : Acc w0 w t v n g := by
  refine ⟨?_, h.bel⟩
  have : (List.range n).map (fun i => Value.int .i64 (g i)) = (List.range n).map fun i => .int .i64 (f i) := List.map_congr_left fun i hi => by rw [e i (List.mem_range.1 hi)]
  rw [this]; exact h.own
theorem l01OwnA_f (a : Option Addr) (n c : Nat) (f : Nat → Int) (w : World) (h : RdR w a n f) (h0 : 0 < n) (hn : n ≤ 9000000000) :
    Calls Try.prog 89 #[.slice a n c] w fun e w' => ∃ g cg, e = .returned (.slice (some ⟨g, 0, none⟩) n cg) ∧ Acc w w' 2 (.slice (some ⟨g, 0, none⟩) n cg) n f := by
  obtain ⟨b, off, rfl, hb, hc⟩ := h.open h0
  have HC := Lib.hid hc
  clear hc h
  go_enter Try.func89, Try.ntmps89
  go_wp2_with (at_builtin; refine pushAll64 _ rfl _ _ rfl w w.heap.size 0 rfl (Acc.start w _ _) b off n c f rfl (fun i hi => by rw [(below_alloc w _).cell (p := ⟨b, off + i, none⟩) hb]; exact HC.out i hi) h0 hn ?_; intro g3 c3 w3 hacc)
  go_ret
  exact ⟨g3, c3, rfl, hacc⟩
/-- rows of numbers are kept -/
def Keep (w w' : World) : Prop := ∀ b k x, RowB w 2 b k x → RowB w' 2 b k x
theorem Keep.refl (w : World) : Keep w w := fun _ _ _ h => h
theorem Keep.trans {a b c : World} (h : Keep a b) (h' : Keep b c) : Keep a c := fun b k x hx => h' b k x (h b k x hx)
theorem below_keep {w w' : World} (h : Below w.heap.size w w') : Keep w w' := fun _ _ _ hx => RowB.below hx h hx.lt
theorem AccM.keep {w0 w1 w' : World} {v : Value} {n : Nat} {L C G : Nat → Nat} {f : Nat → Nat → Int} (h' : AccM w0 w1 26 2 v n L C G f) (o : Obj) (h2 : (w1.alloc o).grownBy w' v.ownBlock) : Keep w1 w' := by
  have hvb : ∀ q, v.ownBlock = some q → q < w1.heap.size ∧ ∃ cur, w1.heap[q]? = some (.cells cur 26 (0, 0)) := by
    intro q hq
    refine ⟨(h'.own.lt q hq).2, ?_⟩
    rcases h'.own.2 with ⟨rfl, _⟩ | ⟨g', cap', cur, rfl, _, hg', _⟩
    · cases hq
    · simp only [Value.ownBlock, Option.some.injEq] at hq
      subst hq
      exact ⟨cur, hg'⟩
  intro b k x hx
  refine RowB.of_block hx ?_
  rw [h2.block b (by simp; have := RowB.lt hx; omega) ?_]
  · exact Below.heap_alloc w1 o b (RowB.lt hx)
  · intro e
    obtain ⟨_, cur, e1⟩ := hvb b e.symm
    obtain ⟨cur', e2, _⟩ := hx
    rw [e1] at e2
    cases e2
theorem AccM.cong {w0 w : World} {T t : TypeId} {v : Value} {n : Nat} {L C G : Nat → Nat} {f g : Nat → Nat → Int} (h : AccM w0 w T t v n L C G f) (e : ∀ i, i < n → ∀ j, j < L i → f i j = g i j) : AccM w0 w T t v n L C G g :=
  ⟨h.own, h.bel, fun i hi => ⟨(h.row i hi).1, (h.row i hi).2.1, (h.row i hi).2.2.1, (h.row i hi).2.2.2.congr (e i hi)⟩, h.apart⟩
/-- a list of lists read as a table -/
def rowF (X : List (List Nat)) (i : Nat) : Nat → Int := lF (X.getD i [])
theorem rowF_app {X : List (List Nat)} (Y : List (List Nat)) {i : Nat} (hi : i < X.length) : rowF X i = rowF (X ++ Y) i := by
  unfold rowF
  rw [List.getD_eq_getElem?_getD, List.getD_eq_getElem?_getD, List.getElem?_append_left hi]
def partP (n f : Nat) (s : List Nat) (i : Nat) : List (List Nat) := ((List.range' 1 (i - 1)).filter fun i => !s.contains i).flatMap fun i => perF n f (s ++ [i])
theorem partP_step (n f : Nat) (s : List Nat) (i : Nat) (hi : 1 ≤ i) : partP n f s (i + 1) = partP n f s i ++ (if s.contains i = true then [] else perF n f (s ++ [i])) := by
  unfold partP
  obtain ⟨j, rfl⟩ : ∃ j, i = j + 1 := ⟨i - 1, by omega⟩
  have e : List.range' 1 (j + 1 + 1 - 1) = List.range' 1 (j + 1 - 1) ++ [j + 1] := by
    rw [show j + 1 + 1 - 1 = j + 1 by omega, show j + 1 - 1 = j by omega, List.range'_concat]; simp; omega
  rw [e, List.filter_append, List.flatMap_append]
  congr 1
  cases h : s.contains (j + 1)
  · rw [List.filter_cons, h]; simp
  · rw [List.filter_cons, h]; simp
theorem partP_len {n f : Nat} {s : List Nat} {i : Nat} (hi : 1 ≤ i) (hin : i ≤ n) : (partP n f s i).length ≤ (perF n (f + 1) s).length := by
  have key : ∀ k, i + k ≤ n → (partP n f s i).length ≤ (partP n f s (i + k)).length := by
    intro k
    induction k with
    | zero => intro _; exact Nat.le_refl _
    | succ k ih =>
      intro hk
      rw [← Nat.add_assoc, partP_step n f s (i + k) (by omega), List.length_append]
      have := ih (by omega); omega
  have := key (n - i) (by omega)
  rw [show i + (n - i) = n by omega] at this
  exact this
theorem has_eq (s : List Nat) (i : Nat) : hasP s.length (fun j => s.getD j 0) i = s.contains i := by
  unfold hasP
  rw [Bool.eq_iff_iff]
  simp only [decide_eq_true_eq, List.contains_iff_mem]
  constructor
  · rintro ⟨j, hj, rfl⟩
    rw [List.getD_eq_getElem?_getD, List.getElem?_eq_getElem hj]
    exact List.getElem_mem hj
  · intro h
    obtain ⟨j, hj, e⟩ := List.getElem_of_mem h
    exact ⟨j, hj, by rw [List.getD_eq_getElem?_getD, List.getElem?_eq_getElem hj]; exact e⟩
/-- what the search for all permutations gives -/
def OrsRes (n f : Nat) (s : List Nat) (X : List (List Nat)) (w0 w : World) (e : Ending) (w' : World) : Prop :=
  ∃ (v : Value) (C G : Nat → Nat), e = .returned v ∧ AccM w0 w' 26 2 v (X ++ perF n f s).length (fun _ => n) C G (rowF (X ++ perF n f s)) ∧ Keep w w' ∧ w.heap.size ≤ w'.heap.size
set_option maxHeartbeats 8000000 in
set_option maxRecDepth 100000 in
theorem l03Orders_f (n : Nat) (hn : n ≤ 1000) : ∀ (f : Nat) (s : List Nat) (X : List (List Nat)) (g c : Nat) (v : Value) (C G : Nat → Nat) (w0 wl w : World), s.length + f = n → 0 < s.length → (X ++ perF n f s).length ≤ 1000 →
    AccM w0 wl 26 2 v X.length (fun _ => n) C G (rowF X) → Below wl.heap.size wl w → wl.heap.size ≤ g → RowI w 2 g s.length (lF s) → s.length ≤ c → c ≤ maxLen →
    Calls Try.prog 68 #[.int .i64 n, .slice (some ⟨g, 0, none⟩) s.length c, v] w (OrsRes n f s X w0 w) := by
  intro f
  induction f with
  | zero =>
    intro s X g c v C G w0 wl w hsn hs0 hX hacc hbel hg hrow hc1 hc2
    have HA := Lib.hid hacc
    have HB := Lib.hid hbel
    have HR := Lib.hid hrow
    have HK := Lib.hid (hacc.kept hbel)
    have hl : s.length = n := by omega
    have hxl : X.length ≤ 1000 := by rw [List.length_append] at hX; omega
    have HX := Lib.hid hX
    clear hacc hbel hrow hX
    rw [hl] at HR hc1 ⊢
    have hd : ((n : Int) == (n : Int)) = true := by simp
    obtain ⟨xl, hxl'⟩ : ∃ x, x = X.length := ⟨_, rfl⟩
    rw [← hxl'] at HA HK hxl
    have HXL := Lib.hid hxl'
    clear hxl'
    have hsz := HK.out.bel.size
    go_enter Try.func68, Try.ntmps68
    go_wp2_with (at_builtin; refine pushRow _ rfl _ _ rfl w0.heap.size _ xl _ rfl (HK.out.own.alloc _) ⟨w.heap.size, 0, none⟩ (some ⟨g, 0, none⟩) n c rfl (cell_one_new _ _ _) (by omega) (by simp; omega) ?_; intro g3 c3 w3 hown3 hgr3)
    have HCg := Lib.hid (HA.out.cong (g := rowF (X ++ [s])) (fun i hi j _ => by rw [rowF_app [s] (by rw [← HXL.out]; exact hi)]))
    have HP := Lib.hid (HCg.out.push (by decide) HB.out hg (show RowI w 2 g n (rowF (X ++ [s]) xl) by
      unfold rowF; rw [HXL.out]; simpa using HR.out) rfl hc1 hc2 _ hown3 hgr3)
    have HKp := Lib.hid (HK.out.keep _ hgr3)
    have HSz := Lib.hid (show w.heap.size ≤ w3.heap.size from by have := hgr3.size; simp at this; omega)
    clear hown3 hgr3
    go_ret
    have e1 : (X ++ perF n 0 s).length = xl + 1 := by rw [HXL.out]; simp [perF]
    have HP2 := HP.out
    exact ⟨_, _, _, rfl, by rw [e1]; exact HP2, HKp.out, HSz.out⟩
  | succ f ih =>
    intro s X g c v C G w0 wl w hsn hs0 hX hacc hbel hg hrow hc1 hc2
    have HIH := Lib.hid ih
    clear ih
    have HK := Lib.hid (hacc.kept hbel)
    have HR := Lib.hid hrow
    have HX := Lib.hid hX
    have HP1 := Lib.hid (fun i (h1 : 1 ≤ i) (h2 : i ≤ n) => partP_len (f := f) (s := s) h1 h2)
    clear hacc hbel hrow hX
    have hd : ((s.length : Int) == (n : Int)) = false := by simp; omega
    obtain ⟨sl, hsl⟩ : ∃ x, x = s.length := ⟨_, rfl⟩
    rw [← hsl] at HR hd hc1 hsn hs0 ⊢
    have HSL := Lib.hid hsl
    clear hsl
    go_enter Try.func68, Try.ntmps68
    go_wp2_with fail
    go_loopw [2, 7] (fun v x wr => ∃ (i : Nat) (C G : Nat → Nat), 1 ≤ i ∧ i ≤ n ∧ x = .int .i64 i ∧ AccM w0 wr 26 2 v (X ++ partP n f s i).length (fun _ => n) C G (rowF (X ++ partP n f s i)) ∧ Keep w wr ∧ w.heap.size ≤ wr.heap.size) (fun _ x _ => n - (intOf x).toNat)
    case atStart => exact ⟨1, C, G, by omega, by omega, rfl, by simpa [partP] using HK.out, Keep.refl _, Nat.le_refl _⟩
    case round =>
      obtain ⟨i, C1, G1, hi1, hin, rfl, hacc, hkp, hsz⟩ := hrel
      have HA := Lib.hid hacc
      have HKp := Lib.hid hkp
      have HSz := Lib.hid hsz
      clear hacc hkp hsz
      by_cases hlt : i < n
      · have HRr := Lib.hid (show RowI wr 2 g sl (lF s) from HKp.out _ _ _ HR.out)
        have HH := Lib.hid (l01Has_f (some ⟨g, 0, none⟩) sl c i (fun j => s.getD j 0) wr HRr.out.rd (by omega))
        rw [HSL.out, has_eq, ← HSL.out] at HH
        have HPs := Lib.hid (partP_step n f s i hi1)
        cases hh : s.contains i
        · rw [hh] at HH HPs
          have HPs := Lib.hid (show partP n f s (i + 1) = partP n f s i ++ perF n f (s ++ [i]) from HPs.out)
          have HO := Lib.hid (l01OwnA_f (some ⟨g, 0, none⟩) sl c (lF s) wr HRr.out.rd hs0 (by omega))
          go_wp2_with fail
          refine HH.out.mono ?_
          rintro e w1 ⟨rfl, rfl⟩
          go_wp2_with fail
          refine HO.out.mono ?_
          rintro e w2 ⟨g2, c2, rfl, hacc2⟩
          have HA2 := Lib.hid (hacc2.cong (g := lF (s ++ [i])) (fun j hj => by
            unfold lF; rw [List.getD_eq_getElem?_getD, List.getD_eq_getElem?_getD, List.getElem?_append_left (by rw [← HSL.out]; exact hj)]))
          clear hacc2
          have hsz := HA2.out.bel.size
          go_wp2_with (at_builtin; refine push64 _ rfl _ _ rfl wr.heap.size _ sl _ rfl (HA2.out.own.alloc _) ⟨w2.heap.size, 0, none⟩ (i : Int) rfl (cell_one_new _ _ _) (by omega) (by simp; omega) ?_; intro g3 c3 w3 hown3 hgr3)
          have HP := Lib.hid (HA2.out.push _ (by unfold lF; rw [HSL.out]; simp) hown3 hgr3)
          clear hown3 hgr3
          obtain ⟨d1, d2, d3, d4⟩ := HP.out.done
          have HB3 := Lib.hid HP.out.bel
          have hle : (X ++ partP n f s (i + 1)).length ≤ 1000 := by
            have h1 := HP1.out (i + 1) (by omega) (by omega)
            have h2 := HX.out
            rw [List.length_append] at h2 ⊢; omega
          rw [HPs.out, ← List.append_assoc] at hle
          have hsl1 : (s ++ [i]).length = sl + 1 := by rw [HSL.out]; simp
          have HC := Lib.hid (HIH.out (s ++ [i]) (X ++ partP n f s i) g3 c3 _ C1 G1 w0 wr w3 (by rw [hsl1]; omega) (by rw [hsl1]; omega) hle HA.out HB3.out d1 (by rw [hsl1]; exact d4) (by rw [hsl1]; exact d2) d3)
          rw [hsl1] at HC
          clear hle hsl1 d1 d2 d3 d4 HO HH hsz
          refine HC.out.mono ?_
          rintro e w4 ⟨v4, C4, G4, rfl, hacc4, hkp4, hsz4⟩
          have HA4 := Lib.hid hacc4
          rw [List.append_assoc, ← HPs.out] at HA4
          have HKp4 := Lib.hid (HKp.out.trans ((below_keep HB3.out).trans hkp4))
          have HSz4 := Lib.hid (show w.heap.size ≤ w4.heap.size from by have := HSz.out; have := HB3.out.size; omega)
          clear hacc4 hkp4 hsz4
          go_wp2_with fail
          exact ⟨⟨i + 1, C4, G4, by omega, by omega, by go_num, HA4.out, HKp4.out, HSz4.out⟩, by simp [intOf]; omega⟩
        · rw [hh] at HH HPs
          have HPt := Lib.hid (show partP n f s (i + 1) = partP n f s i by rw [HPs.out]; simp)
          clear HPs
          go_wp2_with fail
          refine HH.out.mono ?_
          rintro e w1 ⟨rfl, rfl⟩
          go_wp2_with fail
          exact ⟨⟨i + 1, C1, G1, by omega, by omega, by go_num, by rw [HPt.out]; exact HA.out, HKp.out, HSz.out⟩, by simp [intOf]; omega⟩
      · obtain rfl : i = n := by omega
        go_wp2_with fail
        go_ret
        exact ⟨_, C1, G1, rfl, HA.out, HKp.out, HSz.out⟩
end Go.Proofs.Ytmdmojklagmmiaa
