/- Merged: EoA, EoB, EoC, EoD. -/
import Derived.Test.YtmdmojklagmmiaaEnGI
import Derived.Test.YtmdmojklagmmiaaOpS
import Derived.Test.YtmdmojklagmmiaaBios
import Derived.Test.YtmdmojklagmmiaaFmA
import Derived.Test.YtmdmojklagmmiaaEnJK
import Derived.Test.YtmdmojklagmmiaaFpB
/- All small rings: the specification's search. -/
namespace Go.Proofs.Ytmdmojklagmmiaa
open Go.RowKit
set_option linter.unusedSimpArgs false
set_option linter.unusedVariables false
set_option maxRecDepth 100000 in
set_option maxHeartbeats 4000000 in
theorem l07Fits_f (b n c lo hi : Nat) (C B : Nat → Nat) (CC G : Nat → Nat → Nat) (f : Nat → Nat → Nat → Int) (d : List Nat) (i j k : Nat) (w : World) (h : CubB w lo hi b n (fun _ => n) (fun _ _ => n) C B CC G f) (hD : DuB d n f) (hdl : d.getD i 0 < n) (hn : n ≤ 1000) (hi' : i < n) (hj : j < n) (hk : k < n) :
    Calls Try.prog 119 #[.slice (some ⟨b, 0, none⟩) n c, .int .i64 i, .int .i64 j, .int .i64 k] w fun e w' => e = .returned (.bool (fitB n f i j k)) ∧ Drawn w w' := by
  have HF : fitB n f i j k = (decide (i < d.getD i 0) || (decide (d.getD i 0 = i) && decide (j < k)) || (f i j k == f (d.getD i 0) k j)) := by
    unfold fitB; rw [hD.dn hi']
  have hdu := hD i hi'
  have HX := Lib.hid (l03Dual_f b 0 n c B (fun _ => 0) C G (fun _ _ => 0) CC f i w (cubAt h) hn hi')
  rw [hdu] at HX
  have H := Lib.hid h
  clear h hD hdu
  generalize d.getD i 0 = a at *
  have c1 := RowB.cell H.out.outer hi'
  have c2 := RowB.cell (H.out.row i hi').2.2.2.1.outer hj
  have c3 := RowB.cell ((H.out.row i hi').2.2.2.1.row j hj).2.2.2 hk
  have c4 := RowB.cell H.out.outer hdl
  have c5 := RowB.cell (H.out.row a hdl).2.2.2.1.outer hk
  have c6 := RowB.cell ((H.out.row a hdl).2.2.2.1.row k hk).2.2.2 hj
  have HV := Lib.hid HF
  clear HF
  obtain ⟨r, hr⟩ : ∃ r, r = fitB n f i j k := ⟨_, rfl⟩
  rw [← hr] at HV ⊢
  clear hr H
  by_cases h1 : i < a
  · have HR := Lib.hid (show r = true by rw [HV.out, decide_eq_true h1]; rfl)
    clear HV c1 c2 c3 c4 c5 c6
    go_enter Try.func119, Try.ntmps119
    go_wp2_with fail
    refine HX.out.mono ?_
    rintro e w' ⟨rfl, rfl⟩
    go_wp2_with fail
    go_ret
    exact ⟨ret_bool HR.out.symm, Drawn.refl _⟩
  · by_cases h2 : a = i
    · by_cases h3 : j < k
      · have HR := Lib.hid (show r = true by rw [HV.out, decide_eq_true h2, decide_eq_true h3]; simp)
        clear HV c1 c2 c3 c4 c5 c6
        go_enter Try.func119, Try.ntmps119
        go_wp2_with fail
        refine HX.out.mono ?_
        rintro e w' ⟨rfl, rfl⟩
        go_wp2_with fail
        go_ret
        exact ⟨ret_bool HR.out.symm, Drawn.refl _⟩
      · have HR := Lib.hid (show (f i j k == f a k j) = r by rw [HV.out, decide_eq_false h1, decide_eq_false h3]; simp)
        subst h2
        generalize f a j k = x at *
        generalize f a k j = y at *
        generalize G a j = g1 at *
        generalize G a k = g2 at *
        clear HV
        go_enter Try.func119, Try.ntmps119
        go_wp2_with fail
        refine HX.out.mono ?_
        rintro e w' ⟨rfl, rfl⟩
        go_wp2_with fail
        go_region
        go_wp2_with fail
        go_ret
        exact ⟨ret_bool HR.out, ⟨1, rfl⟩⟩
    · have HR := Lib.hid (show (f i j k == f a k j) = r by rw [HV.out, decide_eq_false h1, decide_eq_false h2]; simp)
      generalize f i j k = x at *
      generalize f a k j = y at *
      clear HV
      go_enter Try.func119, Try.ntmps119
      go_wp2_with fail
      refine HX.out.mono ?_
      rintro e w' ⟨rfl, rfl⟩
      go_wp2_with fail
      go_region
      go_wp2_with fail
      go_ret
      exact ⟨ret_bool HR.out, ⟨1, rfl⟩⟩
end Go.Proofs.Ytmdmojklagmmiaa
/- All small rings: the specification's search, all of it. -/
namespace Go.Proofs.Ytmdmojklagmmiaa
open Go.RowKit
set_option linter.unusedSimpArgs false
set_option linter.unusedVariables false
theorem LsR.trnG {base lim n : Nat} {w w' : World} {v : Value} {X : List (Nat → Nat → Nat → Int)} {A : Nat → Nat × Nat} {Lo Hi : Nat → Nat} {P : Nat → Prop} (h : LsR base lim w v n X A Lo Hi) (ho : Trn P w w') (h1 : ∀ k, v.ownBlock = some k → ¬ P k) (h2 : ∀ i, i < X.length → ∀ k, P k → ¬ (Lo i ≤ k ∧ k < Hi i)) : LsR base lim w' v n X A Lo Hi :=
  ⟨own_trn h.own ho h1, fun i hi => ⟨(h.cub i hi).1, Nat.le_trans (h.cub i hi).2.1 ho.size, (h.cub i hi).2.2.trn ho (h2 i hi)⟩, h.dis, h.off⟩
/-- the state of the specification's search -/
structure GrW (lo hi b n base : Nat) (C B : Nat → Nat) (CC G : Nat → Nat → Nat) (w : World) (v : Value) (X : List (Nat → Nat → Nat → Int)) (g : Nat → Nat → Nat → Int) : Prop where
  cub : CubB w lo hi b n (fun _ => n) (fun _ _ => n) C B CC G g
  lst : ∃ A Lo Hi, LsR base base w v n X A Lo Hi ∧ ∀ i, i < X.length → Hi i ≤ lo ∨ hi ≤ Lo i
  ob : ∀ t, v.ownBlock = some t → ¬ (lo ≤ t ∧ t < hi)
  big : hi ≤ w.heap.size
  nn : ∃ t k, v = .slice (some ⟨t, 0, none⟩) X.length k
def PG (lo hi : Nat) (v : Value) (k : Nat) : Prop := (lo ≤ k ∧ k < hi) ∨ v.ownBlock = some k
theorem GrW.kept {lo hi b n base : Nat} {C B : Nat → Nat} {CC G : Nat → Nat → Nat} {w w' : World} {v : Value} {X : List (Nat → Nat → Nat → Int)} {g : Nat → Nat → Nat → Int} (h : GrW lo hi b n base C B CC G w v X g) (hb : Below w.heap.size w w') : GrW lo hi b n base C B CC G w' v X g := by
  have hT : Trn (fun _ => False) w w' := Trn.of_below hb
  obtain ⟨A, Lo, Hi, hl, hd⟩ := h.lst
  exact ⟨h.cub.trn hT (fun _ h => h.elim), ⟨A, Lo, Hi, hl.trn hT (fun _ _ h => h) (fun _ h => h.elim), hd⟩, h.ob, Nat.le_trans h.big hb.size, h.nn⟩
theorem GrW.cube {lo hi b n base : Nat} {C B : Nat → Nat} {CC G : Nat → Nat → Nat} {w w' : World} {v : Value} {X : List (Nat → Nat → Nat → Int)} {g g' : Nat → Nat → Nat → Int} (h : GrW lo hi b n base C B CC G w v X g) (hT : Trn (fun k => lo ≤ k ∧ k < hi) w w') (hc : CubB w' lo hi b n (fun _ => n) (fun _ _ => n) C B CC G g') : GrW lo hi b n base C B CC G w' v X g' := by
  obtain ⟨A, Lo, Hi, hl, hd⟩ := h.lst
  exact ⟨hc, ⟨A, Lo, Hi, hl.trnG hT h.ob (fun i hi k hk hh => by rcases hd i hi with e | e <;> omega), hd⟩, h.ob, Nat.le_trans h.big hT.size, h.nn⟩
theorem GrW.push {lo hi b n base : Nat} {C B : Nat → Nat} {CC G : Nat → Nat → Nat} {w u w5 : World} {v : Value} {X : List (Nat → Nat → Nat → Int)} {g : Nat → Nat → Nat → Int} {A : Nat → Nat × Nat} {Lo Hi : Nat → Nat} (h : GrW lo hi b n base C B CC G w v X g) (hl : LsR base base w v n X A Lo Hi) (hd : ∀ i, i < X.length → Hi i ≤ lo ∨ hi ≤ Lo i) (hbase : base ≤ w.heap.size)
    {a : Nat × Nat} {t k : Nat} (hb : Below w.heap.size w u) (hc : CubO u w.heap.size u.heap.size a.1 n (fun _ => n) (fun _ _ => n) g) (o : Obj) (hown : w5.ownsRow base 29 1 (.slice (some ⟨t, 0, none⟩) (X.length + 1) k) (X.length + 1) (rgL n A X.length ++ [.slice (some ⟨a.1, 0, none⟩) n a.2])) (hgr : (u.alloc o).grownBy w5 v.ownBlock) (hg : v.ownBlock = some t ∨ t = (u.alloc o).heap.size) :
    GrW lo hi b n base C B CC G w5 (.slice (some ⟨t, 0, none⟩) (X.length + 1) k) (X ++ [g]) g ∧ Trn (PG lo hi v) w w5 ∧ ∀ q, (Value.slice (some ⟨t, 0, none⟩) (X.length + 1) k).ownBlock = some q → v.ownBlock = some q ∨ w.heap.size ≤ q := by
  have hsu := hb.size
  have hbig := h.big
  have hL := hl.push hb (Nat.le_refl _) hbase hsu hc (below_alloc u o) hown hgr (v' := .slice (some ⟨t, 0, none⟩) (X.length + 1) k) (g := t) rfl (hg.imp id (fun e => Nat.le_of_eq e.symm))
  have hT : Trn (fun q => v.ownBlock = some q) w w5 := (Trn.of_below hb).trans ((Trn.of_below (below_alloc u o)).trans (Trn.of_grown hgr fun q hq => hq))
  have hgs : v.ownBlock = some t ∨ w.heap.size ≤ t := hg.imp id (fun e => by rw [e]; simp; omega)
  refine ⟨⟨h.cub.trn hT h.ob, ⟨_, _, _, hL, fun i hi' => ?_⟩, fun q hq => ?_, Nat.le_trans hbig hT.size, ⟨t, k, by rw [List.length_append]; rfl⟩⟩, hT.mono (fun q _ hq => Or.inr hq), fun q hq => ?_⟩
  · rw [List.length_append, List.length_singleton] at hi'
    by_cases e : i = X.length
    · simp only [if_pos e]; right; exact hbig
    · simp only [if_neg e]; exact hd i (by omega)
  · simp only [Value.ownBlock, Option.some.injEq] at hq
    subst hq
    rcases hgs with e | e
    · exact h.ob _ e
    · omega
  · simp only [Value.ownBlock, Option.some.injEq] at hq
    subst hq
    exact hgs
/-- the tables of the first u numbers -/
def grP (q m r : Nat) (g : Nat → Nat → Nat → Int) (i j k u : Nat) : List (Nat → Nat → Nat → Int) := (List.range u).flatMap fun (v : Nat) => if fitB (q + 1) (stC g i j k v) i j k = true then gro q m r (stC g i j k v) else []
theorem grP_succ (q m r : Nat) (g : Nat → Nat → Nat → Int) (i j k u : Nat) : grP q m r g i j k (u + 1) = grP q m r g i j k u ++ (if fitB (q + 1) (stC g i j k u) i j k = true then gro q m r (stC g i j k u) else []) := by
  unfold grP; rw [List.range_succ, List.flatMap_append]; simp
theorem grP_len (q m r : Nat) (g : Nat → Nat → Nat → Int) (i j k : Nat) : ∀ t u, (grP q m r g i j k u).length ≤ (grP q m r g i j k (u + t)).length
  | 0, u => Nat.le_refl _
  | t + 1, u => by
    have h1 := grP_len q m r g i j k t u
    rw [← Nat.add_assoc, grP_succ, List.length_append]; omega
theorem stC_stC (g : Nat → Nat → Nat → Int) (i j k : Nat) (u v : Int) : stC (stC g i j k u) i j k v = stC g i j k v := by
  funext a b c; unfold stC; split <;> rfl
theorem stC_back {g : Nat → Nat → Nat → Int} {i j k : Nat} (h : g i j k = 0) : stC g i j k 0 = g := by
  funext a b c; unfold stC; split
  · rename_i e; rw [e.1, e.2.1, e.2.2, h]
  · rfl
set_option maxRecDepth 100000 in
set_option maxHeartbeats 8000000 in
theorem l07Grow_f (lo hi b n c m base q : Nat) (d : List Nat) (C B : Nat → Nat) (CC G : Nat → Nat → Nat) (hnq : n = q + 1) (hq : q ≤ 2) (P : Plc q d) (hd : ∀ x, x < n → d.getD x 0 < n) (hm : m ≤ 4) :
    ∀ (r : Nat) (g : Nat → Nat → Nat → Int) (w : World) (v : Value) (X : List (Nat → Nat → Nat → Int)), r ≤ q * q * q → (∀ x y z, inP q x y z → q * q * q - r ≤ pN q x y z → g x y z = 0) → DuB d n g → (∀ x y z, 0 ≤ g x y z ∧ g x y z ≤ 4) → (X ++ gro q m r g).length ≤ 1000000000 → base ≤ w.heap.size → GrW lo hi b n base C B CC G w v X g →
    Calls Try.prog 84 #[.slice (some ⟨b, 0, none⟩) n c, .int .i64 ((q * q * q - r : Nat) : Int), .int .i64 (m : Nat), v] w fun e w' => ∃ v', e = .returned v' ∧ GrW lo hi b n base C B CC G w' v' (X ++ gro q m r g) g ∧ Trn (PG lo hi v) w w' ∧ ∀ t, v'.ownBlock = some t → v.ownBlock = some t ∨ w.heap.size ≤ t := by
  intro r
  induction r with
  | zero =>
    intro g w v X _ _ _ hbd hlen hbw hst
    have HST := Lib.hid hst
    have HLE := Lib.hid hlen
    have hn3 : n ≤ 3 := by omega
    have hn1 : 1 ≤ n := by omega
    have w1 : IntKind.i64.wrap ((n : Int) - 1) = (q : Int) := by rw [IntWalk.i64_in _ (by omega)]; omega
    have w2 : IntKind.i64.wrap ((q : Int) * (q : Int)) = ((q * q : Nat) : Int) := by
      obtain rfl | rfl | rfl : q = 0 ∨ q = 1 ∨ q = 2 := by omega
      all_goals decide
    have w3 : IntKind.i64.wrap (((q * q : Nat) : Int) * (q : Int)) = ((q * q * q : Nat) : Int) := by
      obtain rfl | rfl | rfl : q = 0 ∨ q = 1 ∨ q = 2 := by omega
      all_goals decide
    have HFL := Lib.hid (l03Fault_f b 0 n c B (fun _ => 0) C G (fun _ _ => 0) CC g w (cubAt HST.out.cub) (by omega) (by omega) (fun x y z _ _ _ => by have := hbd x y z; omega))
    have HOW := Lib.hid (fun u (hu : Below w.heap.size w u) => l03Own_f (some ⟨b, 0, none⟩) n c g u ((cubAt (HST.out.cub.below hu (Nat.le_refl _))).rd) (by omega) (by omega))
    have HGR := Lib.hid (show gro q m 0 g = if flt n g = [] then [g] else [] by rw [hnq]; rfl)
    clear hst hlen hbd hnq
    generalize hqq : q * q * q = qqq at *
    generalize hq2 : q * q = qq at *
    clear hqq hq2
    go_enter Try.func84, Try.ntmps84
    go_wp2_with fail
    refine HFL.out.mono ?_
    intro e w3 hres
    clear HFL
    rcases hres with ⟨hl, rfl, hb3⟩ | ⟨hl, g3, c3, rfl, hg3, hr3, hb3⟩
    · rw [if_pos hl] at HGR
      have HB3 := Lib.hid hb3
      have HS3 := Lib.hid (HST.out.kept hb3)
      clear hb3 hl
      obtain ⟨A, Lo, Hi, hls, hds⟩ := HS3.out.lst
      have HLS := Lib.hid hls
      have HDS := Lib.hid hds
      have hXl : X.length ≤ 1000000000 := by have := HLE.out; rw [List.length_append] at this; omega
      have hbl : base ≤ w3.heap.size := by have := HB3.out.size; omega
      have hnz : ((0 : Int) == 0) = true := rfl
      clear hls hds
      go_wp2_with fail
      refine (HOW.out _ HB3.out).mono ?_
      rintro e u ⟨a, ca, rfl, hca, hba⟩
      have HCa := Lib.hid hca
      have HBa := Lib.hid hba
      have hus : w3.heap.size ≤ u.heap.size := hba.size
      clear hca hba
      go_wp2_with (at_builtin; refine pushRing _ rfl _ _ rfl base v X.length _ rfl ((own_trn HLS.out.own (Trn.of_below (P := fun _ => False) HBa.out) (fun _ _ h => h)).alloc _) ⟨u.heap.size, 0, none⟩ (some ⟨a, 0, none⟩) n ca rfl (cell_one_new _ _ _) (by omega) (by simp; omega) ?_; intro g5 c5 w5 hown5 hgr5 hat5)
      have HPU := Lib.hid (HS3.out.push (a := (a, ca)) HLS.out HDS.out hbl HBa.out HCa.out _ hown5 hgr5 hat5)
      clear hown5 hgr5 hat5
      go_wp2_with fail
      go_ret
      exact ⟨_, rfl, by rw [HGR.out]; exact HPU.out.1, (show Trn (PG lo hi v) w w3 from Trn.of_below HB3.out).trans HPU.out.2.1, fun t ht => (HPU.out.2.2 t ht).imp id (fun h => by have := HB3.out.size; omega)⟩
    · rw [if_neg hl] at HGR
      have hln : ¬ ((flt n g).length : Int) = 0 := fun e => hl (List.eq_nil_of_length_eq_zero (by omega))
      have hnz : (((flt n g).length : Int) == 0) = false := by simpa using hl
      have HB3 := Lib.hid hb3
      have HS3 := Lib.hid (HST.out.kept hb3)
      clear hb3 hl hr3
      go_wp2_with fail
      go_ret
      exact ⟨v, rfl, by rw [HGR.out, List.append_nil]; exact HS3.out, Trn.of_below HB3.out, fun t ht => Or.inl ht⟩
  | succ r ih =>
    intro g w v X hr hz hD hbd hlen hbw hst
    have HIH := Lib.hid ih
    have HZ := Lib.hid hz
    have HDu := Lib.hid hD
    have HBD := Lib.hid hbd
    have HLE := Lib.hid hlen
    have HST := Lib.hid hst
    have HP := Lib.hid P
    have HD := Lib.hid hd
    have HNQ := Lib.hid hnq
    have hn3 : n ≤ 3 := by omega
    have hn1 : 1 ≤ n := by omega
    have w1 : IntKind.i64.wrap ((n : Int) - 1) = (q : Int) := by rw [IntWalk.i64_in _ (by omega)]; omega
    have w2 : IntKind.i64.wrap ((q : Int) * (q : Int)) = ((q * q : Nat) : Int) := by
      obtain rfl | rfl | rfl : q = 0 ∨ q = 1 ∨ q = 2 := by omega
      all_goals decide
    have w3 : IntKind.i64.wrap (((q * q : Nat) : Int) * (q : Int)) = ((q * q * q : Nat) : Int) := by
      obtain rfl | rfl | rfl : q = 0 ∨ q = 1 ∨ q = 2 := by omega
      all_goals decide
    have hq8 : q * q * q ≤ 8 := by
      obtain rfl | rfl | rfl : q = 0 ∨ q = 1 ∨ q = 2 := by omega
      all_goals decide
    have hq4 : q * q ≤ 4 := by
      obtain rfl | rfl | rfl : q = 0 ∨ q = 1 ∨ q = 2 := by omega
      all_goals decide
    have hq0 : 0 < q := by
      rcases Nat.eq_zero_or_pos q with h | h
      · rw [h] at hr; simp at hr
      · exact h
    have hqq0 : 0 < q * q := Nat.mul_pos hq0 hq0
    obtain ⟨p, hp⟩ : ∃ p, p = q * q * q - (r + 1) := ⟨_, rfl⟩
    have hp1 : q * q * q - r = p + 1 := by omega
    have hpl : p < q * q * q := by omega
    have HAT := Lib.hid (P.at' hpl)
    have HI := Lib.hid (show pI q p = p / (q * q) + 1 from rfl)
    have HJ := Lib.hid (show pJ q p = p / q % q + 1 from rfl)
    have HK := Lib.hid (show pK q p = p % q + 1 from rfl)
    have HGR := Lib.hid (show gro q m (r + 1) g = grP q m r g (pI q p) (pJ q p) (pK q p) (m + 1) by rw [hp]; rfl)
    have HDS := Lib.hid (fun z => show DuB d n (stC g (pI q p) (pJ q p) (pK q p) z) from hD.st z)
    rw [← hp]
    rw [hp1] at HIH
    have HPV := Lib.hid hp
    clear ih hz hD hbd hlen hst P hd hnq hp
    obtain ⟨i, hi9⟩ : ∃ i, i = pI q p := ⟨_, rfl⟩
    obtain ⟨j, hj9⟩ : ∃ j, j = pJ q p := ⟨_, rfl⟩
    obtain ⟨k, hk9⟩ : ∃ k, k = pK q p := ⟨_, rfl⟩
    rw [← hi9] at HAT HI HGR HDS
    rw [← hj9] at HAT HJ HGR HDS
    rw [← hk9] at HAT HK HGR HDS
    clear hi9 hj9 hk9
    have e1 : (p : Int).tdiv ((q * q : Nat) : Int) = ((p / (q * q) : Nat) : Int) := by rw [Int.tdiv_eq_ediv_of_nonneg (by omega)]; rfl
    have e2 : (p : Int).tdiv (q : Int) = ((p / q : Nat) : Int) := by rw [Int.tdiv_eq_ediv_of_nonneg (by omega)]; rfl
    have e3 : ((p / q : Nat) : Int).tmod (q : Int) = ((p / q % q : Nat) : Int) := by rw [Int.tmod_eq_emod_of_nonneg (Int.natCast_nonneg _)]; rfl
    have e4 : (p : Int).tmod (q : Int) = ((p % q : Nat) : Int) := by rw [Int.tmod_eq_emod_of_nonneg (by omega)]; rfl
    have hI := HI.out
    have hJ := HJ.out
    have hK := HK.out
    have h4 : p / q ≤ 8 := by have := Nat.div_le_self p q; omega
    clear HI HJ HK
    have hin := HAT.out.1
    unfold inP at hin
    have hi8 : i < n := by have := HNQ.out; omega
    have hj8 : j < n := by have := HNQ.out; omega
    have hk8 : k < n := by have := HNQ.out; omega
    generalize p / (q * q) = a1 at *
    generalize p / q % q = a2 at *
    generalize p / q = a4 at *
    generalize p % q = a3 at *
    have f1 : IntKind.i64.wrap ((a1 : Nat) : Int) = (a1 : Int) := IntWalk.i64_in _ (by omega)
    have f3 : IntKind.i64.wrap ((a1 : Int) + 1) = (i : Int) := by rw [IntWalk.i64_in _ (by omega)]; omega
    have f4 : IntKind.i64.wrap ((a2 : Int) + 1) = (j : Int) := by rw [IntWalk.i64_in _ (by omega)]; omega
    have f5 : IntKind.i64.wrap ((a3 : Int) + 1) = (k : Int) := by rw [IntWalk.i64_in _ (by omega)]; omega
    have ha4 : IntKind.i64.wrap ((a4 : Nat) : Int) = (a4 : Int) := IntWalk.i64_in _ (by omega)
    have hne2 : ¬ (p : Int) = ((q * q * q : Nat) : Int) := by omega
    have hne : ((p : Int) == ((q * q * q : Nat) : Int)) = false := beq_eq_false_iff_ne.2 hne2
    generalize hqqq : q * q * q = qqq at *
    generalize hqq : q * q = qq at *
    have g1 : ¬ (qq : Int) = 0 := by omega
    have g2 : ¬ (q : Int) = 0 := by omega
    have HQ := Lib.hid hqqq
    clear hqqq hqq hI hJ hK
    go_enter Try.func84, Try.ntmps84
    go_wp2_with fail
    go_region
    obtain ⟨wd, hwd⟩ : ∃ x, x = w.drew := ⟨_, rfl⟩
    rw [← hwd]
    have HST1 := Lib.hid (show GrW lo hi b n base C B CC G wd v (X ++ grP q m r g i j k 0) g by rw [hwd, show X ++ grP q m r g i j k 0 = X by simp [grP]]; exact HST.out.kept (Below.refl _ _).drew)
    have HT1 := Lib.hid (show Trn (PG lo hi v) w wd by rw [hwd]; exact Trn.of_below (Below.refl _ _).drew)
    clear hwd e1 e2 e3 e4 f1 f3 f4 f5 ha4 hne hne2 g1 g2
    go_wp2_with fail
    go_loopw [3, 13] (fun y x wr => ∃ (u : Nat) (cur : Nat → Nat → Nat → Int), u ≤ m + 1 ∧ x = .int .i64 u ∧ GrW lo hi b n base C B CC G wr y (X ++ grP q m r g i j k u) cur ∧ (∀ z, stC cur i j k z = stC g i j k z) ∧ Trn (PG lo hi v) w wr ∧ ∀ t, y.ownBlock = some t → v.ownBlock = some t ∨ w.heap.size ≤ t) (fun _ x _ => m + 1 - (intOf x).toNat)
    case atStart => exact ⟨0, g, by omega, rfl, HST1.out, fun _ => rfl, HT1.out, fun t ht => Or.inl ht⟩
    case round =>
      clear HST1 HT1
      obtain ⟨u, cur, hu, rfl, hgw, hpu, htr, hgr⟩ := hrel
      have HGW := Lib.hid hgw
      have HPU := Lib.hid hpu
      have HTR := Lib.hid htr
      have HGO := Lib.hid hgr
      clear hgw hpu htr hgr
      have c1 := RowB.cell HGW.out.cub.outer hi8
      have c2 := RowB.cell (HGW.out.cub.row i hi8).2.2.2.1.outer hj8
      have c3 := RowB.cell ((HGW.out.cub.row i hi8).2.2.2.1.row j hj8).2.2.2 hk8
      have c4 := RowB.frozen ((HGW.out.cub.row i hi8).2.2.2.1.row j hj8).2.2.2 k
      have hg1 := ((HGW.out.cub.row i hi8).2.2.2.1.row j hj8).1
      have hg2 := (HGW.out.cub.row i hi8).2.2.2.2 j hj8
      have HST := Lib.hid (fun z => (HGW.out.cub.set (i := i) (j := j) (k := k) hi8 hj8 z).cong (g := stC g i j k z) (fun a _ b' _ c' _ => by
        have := congrFun (congrFun (congrFun (HPU.out z) a) b') c'
        rw [← this]; rfl))
      have HTZ := Lib.hid (fun z => show Trn (fun t => lo ≤ t ∧ t < hi) wr (wr.setCell ⟨G i j, k, none⟩ z) from (Trn.refl (fun t => lo ≤ t ∧ t < hi) wr).setCell (p := ⟨G i j, k, none⟩) (show lo ≤ G i j ∧ G i j < hi from ⟨hg1, hg2⟩) z)
      have HGZ := Lib.hid (fun z => HGW.out.cube (HTZ.out (.int .i64 z)) (HST.out z))
      clear hg1 hg2
      generalize B i = bi at *
      generalize C i = ci at *
      generalize G i j = gij at *
      generalize CC i j = cij at *
      obtain ⟨old, hold⟩ : ∃ o, o = cur i j k := ⟨_, rfl⟩
      rw [← hold] at c3
      clear hold
      by_cases hum : u < m + 1
      · have HGU := Lib.hid (HGZ.out (u : Int))
        have HTU := Lib.hid (HTR.out.trans2 (HTZ.out (.int .i64 (u : Int))) (fun t _ h => Or.inl h))
        have HFI := Lib.hid (l07Fits_f b n c lo hi C B CC G (stC g i j k u) d i j k _ HGU.out.cub (HDS.out u) (HD.out i hi8) (by omega) hi8 hj8 hk8)
        have wp1 : IntKind.i64.wrap ((p : Int) + 1) = ((p + 1 : Nat) : Int) := by rw [IntWalk.i64_in _ (by omega)]; omega
        clear HGZ HTZ HST
        obtain ⟨wu, hwu⟩ : ∃ x, x = wr.setCell ⟨gij, k, none⟩ (.int .i64 (u : Int)) := ⟨_, rfl⟩
        rw [← hwu] at HGU HTU HFI
        have HWU := Lib.hid hwu
        clear hwu
        cases hfb : fitB n (stC g i j k u) i j k
        · rw [hfb] at HFI
          have HNX := Lib.hid (show grP q m r g i j k (u + 1) = grP q m r g i j k u by rw [grP_succ, ← HNQ.out, hfb]; simp)
          clear hfb
          go_wp2_with fail
          rw [← HWU.out]
          refine HFI.out.mono ?_
          rintro e w2 ⟨rfl, hdr⟩
          have HG2 := Lib.hid (HGU.out.kept hdr.below)
          have HT2 := Lib.hid (HTU.out.trans (Trn.of_below (hdr.below (B := wu.heap.size))))
          clear hdr c1 c2 c3 c4 HFI
          go_wp2_with fail
          refine ⟨⟨u + 1, stC g i j k u, ?_, ?_, ?_, ?_, ?_, ?_⟩, ?_⟩
          · omega
          · go_num
          · rw [HNX.out]; exact HG2.out
          · exact fun z => stC_stC g i j k u z
          · exact HT2.out
          · exact HGO.out
          · simp [intOf]; omega
        · rw [hfb] at HFI
          have HNX := Lib.hid (show grP q m r g i j k (u + 1) = grP q m r g i j k u ++ gro q m r (stC g i j k u) by rw [grP_succ, ← HNQ.out, if_pos hfb])
          clear hfb
          go_wp2_with fail
          rw [← HWU.out]
          refine HFI.out.mono ?_
          rintro e w2 ⟨rfl, hdr⟩
          have HG2 := Lib.hid (HGU.out.kept hdr.below)
          have HT2 := Lib.hid (HTU.out.trans (Trn.of_below (hdr.below (B := wu.heap.size))))
          have HCALL := Lib.hid (HIH.out (stC g i j k u) w2 u3 (X ++ grP q m r g i j k u) (by have := HQ.out; omega) (fun x y z hxyz hp => by
            unfold stC
            rw [if_neg]
            · exact HZ.out x y z hxyz (by have := HPV.out; omega)
            · rintro ⟨rfl, rfl, rfl⟩
              have := HAT.out.2
              omega) (HDS.out u) (fun x y z => by
              unfold stC
              split
              · omega
              · exact HBD.out x y z) (by
              have h1 := HLE.out
              rw [HGR.out] at h1
              have h2 := grP_len q m r g i j k (m - u) (u + 1)
              rw [show u + 1 + (m - u) = m + 1 by omega, HNX.out] at h2
              simp only [List.length_append] at h1 h2 ⊢
              omega) (by have := HT2.out.size; omega) HG2.out)
          clear hdr c1 c2 c3 c4 HFI
          go_wp2_with fail
          refine HCALL.out.mono ?_
          rintro e w5 ⟨v5, rfl, hg5, ht5, ho5⟩
          have HG5 := Lib.hid (show GrW lo hi b n base C B CC G w5 v5 (X ++ grP q m r g i j k (u + 1)) (stC g i j k u) by rw [HNX.out, ← List.append_assoc]; exact hg5)
          have HT5 := Lib.hid (HT2.out.trans2 ht5 (fun t ht h => by
            rcases h with h | h
            · exact Or.inl h
            · rcases HGO.out _ h with e | e
              · exact Or.inr e
              · omega))
          have HO5 := Lib.hid (show ∀ t, v5.ownBlock = some t → v.ownBlock = some t ∨ w.heap.size ≤ t from fun t ht => by
            rcases ho5 t ht with e | e
            · exact HGO.out t e
            · right; have := HT2.out.size; omega)
          clear hg5 ht5 ho5 HCALL
          go_wp2_with fail
          refine ⟨⟨u + 1, stC g i j k u, ?_, ?_, ?_, ?_, ?_, ?_⟩, ?_⟩
          · omega
          · go_num
          · exact HG5.out
          · exact fun z => stC_stC g i j k u z
          · exact HT5.out
          · exact HO5.out
          · simp [intOf]; omega
      · have hum2 : u = m + 1 := by omega
        have HG0 := Lib.hid (HGZ.out 0)
        have HT0 := Lib.hid (HTR.out.trans2 (HTZ.out (.int .i64 0)) (fun t _ h => Or.inl h))
        have hgz : g i j k = 0 := HZ.out i j k HAT.out.1 (by rw [HAT.out.2]; have := HPV.out; omega)
        have HF := Lib.hid (show GrW lo hi b n base C B CC G (wr.setCell ⟨gij, k, none⟩ (.int .i64 0)) u3 (X ++ gro q m (r + 1) g) g by
          have h9 := HG0.out
          rw [stC_back hgz, hum2] at h9
          rw [HGR.out]
          exact h9)
        clear HGZ HTZ HST hum2 hgz HG0
        go_wp2_with fail
        go_ret
        exact ⟨u3, rfl, HF.out, HT0.out, HGO.out⟩
end Go.Proofs.Ytmdmojklagmmiaa
/- All small rings: all tables of the specification. -/
namespace Go.Proofs.Ytmdmojklagmmiaa
open Go.RowKit
set_option linter.unusedSimpArgs false
set_option linter.unusedVariables false
theorem per_two : ∀ n, 1 ≤ n → n ≤ 3 → (per n).all (fun d => (List.range n).all fun i => d.getD (d.getD i 0) 0 == i) = true := by
  intro n h1 h2
  obtain rfl | rfl | rfl : n = 1 ∨ n = 2 ∨ n = 3 := by omega
  all_goals decide +kernel
theorem per_twice {n : Nat} (h1 : 1 ≤ n) (h2 : n ≤ 3) {d : List Nat} (hd : d ∈ per n) {i : Nat} (hi : i < n) : d.getD (d.getD i 0) 0 = i := by
  have h := List.all_eq_true.1 (List.all_eq_true.1 (per_two n h1 h2) d hd) i (by simpa using hi)
  simpa using h
/-- the numbers that the duals tell, up to a label -/
def boP (d : List Nat) (u a b c : Nat) : Int := if (a = 0 ∧ b = c ∧ b < u) ∨ (b = 0 ∧ a = c ∧ a < u) ∨ (c = 0 ∧ b = d.getD a 0 ∧ a < u) then 1 else 0
def boF (d : List Nat) (a b c : Nat) : Int := if (a = 0 ∧ b = c) ∨ (b = 0 ∧ a = c) ∨ (c = 0 ∧ b = d.getD a 0) then 1 else 0
theorem boP_zero (d : List Nat) : boP d 0 = fun _ _ _ => 0 := by
  funext a b c; unfold boP; rw [if_neg (by omega)]
theorem boP_end (d : List Nat) {n a b c : Nat} (ha : a < n) (hb : b < n) : boP d n a b c = boF d a b c := by
  unfold boP boF
  by_cases h : (a = 0 ∧ b = c) ∨ (b = 0 ∧ a = c) ∨ (c = 0 ∧ b = d.getD a 0)
  · rw [if_pos h, if_pos (by omega)]
  · rw [if_neg h, if_neg (by omega)]
theorem boP_step (d : List Nat) (u : Nat) {p : Nat} (hp : d.getD u 0 = p) (a b c : Nat) :
    (if a = u ∧ b = p ∧ c = 0 then 1 else if a = u ∧ b = 0 ∧ c = u then 1 else if a = 0 ∧ b = u ∧ c = u then 1 else boP d u a b c) = boP d (u + 1) a b c := by
  unfold boP
  by_cases e1 : a = u ∧ b = p ∧ c = 0
  · rw [if_pos e1, if_pos]
    obtain ⟨rfl, rfl, rfl⟩ := e1
    exact Or.inr (Or.inr ⟨rfl, hp.symm, by omega⟩)
  · rw [if_neg e1]
    by_cases e2 : a = u ∧ b = 0 ∧ c = u
    · rw [if_pos e2, if_pos (by omega)]
    · rw [if_neg e2]
      by_cases e3 : a = 0 ∧ b = u ∧ c = u
      · rw [if_pos e3, if_pos (by omega)]
      · rw [if_neg e3]
        by_cases h : (a = 0 ∧ b = c ∧ b < u) ∨ (b = 0 ∧ a = c ∧ a < u) ∨ (c = 0 ∧ b = d.getD a 0 ∧ a < u)
        · rw [if_pos h, if_pos (by omega)]
        · rw [if_neg h, if_neg]
          rintro (⟨h1, h2, h3⟩ | ⟨h1, h2, h3⟩ | ⟨h1, h2, h3⟩)
          · omega
          · omega
          · by_cases h4 : a = u
            · subst h4; exact e1 ⟨rfl, h2.trans hp, h1⟩
            · exact h (Or.inr (Or.inr ⟨h1, h2, by omega⟩))
theorem boF_du {n : Nat} (h1 : 1 ≤ n) (h3 : n ≤ 3) {d : List Nat} (hd : d ∈ per n) : DuB d n (boF d) := fun i hi => by
  obtain ⟨_, h0, hb⟩ := per_t h1 (by omega) hd
  have h0' : d.getD 0 0 = 0 := by
    have hl : 0 < d.length := by have := (per_t h1 (by omega) hd).1; omega
    simp only [List.getD, List.getElem?_eq_getElem hl, Option.getD_some] at h0 ⊢
    exact h0
  refine dual_eq (hb i hi).1 ⟨?_, fun k hk hne => ?_⟩
  · unfold boF; rw [if_pos (Or.inr (Or.inr ⟨rfl, rfl⟩))]
  · unfold boF; rw [if_neg]
    rintro (⟨e1, e2⟩ | ⟨e1, e2⟩ | ⟨e1, e2⟩)
    · rw [e1, h0'] at hne; exact hne e2
    · rw [e2, h0'] at hne; exact hne e1
    · exact hne e2
theorem boF_bd (d : List Nat) (a b c : Nat) : 0 ≤ boF d a b c ∧ boF d a b c ≤ 4 := by unfold boF; split <;> omega
theorem boF_in {q a b c : Nat} (d : List Nat) (h : inP q a b c) : boF d a b c = 0 := by
  obtain ⟨_, _, _, _, _, _⟩ := h
  unfold boF; rw [if_neg (by omega)]
theorem rdL_gro {n m : Nat} (h1 : 1 ≤ n) (h3 : n ≤ 3) {d : List Nat} (hd : d ∈ per n) : gro (n - 1) m ((n - 1) * (n - 1) * (n - 1)) (boF d) = rdL n m d := by
  have hn : n = n - 1 + 1 := by omega
  have P : Plc (n - 1) d := plc_of (by omega) (by rw [← hn]; exact hd)
  unfold rdL
  refine (srch_gro P _ _ _ (Nat.le_refl _) ?_ (by rw [← hn]; exact boF_du h1 h3 hd)).symm
  rw [Nat.sub_self]
  refine ⟨fun a b c h => ?_, fun a b c h hp => absurd hp (by omega), fun a b c h => Or.inl (opF_in h P)⟩
  unfold opF boF
  by_cases e1 : a = 0 ∧ b = c
  · rw [if_pos e1, if_pos (Or.inl e1)]
  · rw [if_neg e1]
    by_cases e2 : b = 0 ∧ a = c
    · rw [if_pos e2, if_pos (Or.inr (Or.inl e2))]
    · rw [if_neg e2]
      by_cases e3 : c = 0 ∧ b = d.getD a 0
      · rw [if_pos e3, if_pos (Or.inr (Or.inr e3))]
      · rw [if_neg e3, if_neg h, if_neg]
        rintro (e | e | e)
        · exact e1 e
        · exact e2 e
        · exact e3 e
set_option maxRecDepth 100000 in
set_option maxHeartbeats 8000000 in
theorem l07All_f (n m : Nat) (w : World) (h1 : 1 ≤ n) (hn : n ≤ 3) (hm : m ≤ 4) :
    Calls Try.prog 49 #[.int .i64 (n : Nat), .int .i64 (m : Nat)] w fun e w' => ∃ g k A Lo Hi, e = .returned (.slice (some ⟨g, 0, none⟩) (allX n m).length k) ∧ LsR w.heap.size w.heap.size w' (.slice (some ⟨g, 0, none⟩) (allX n m).length k) n (allX n m) A Lo Hi ∧ Below w.heap.size w w' := by
  have h7 : n ≤ 7 := by omega
  have hlen := per_len n h1 h7
  have hpos : 0 < (per n).length := List.length_pos_of_mem (idP_mem h1 h7)
  obtain ⟨W, hW⟩ : ∃ W, W = w.alloc (.cells #[] 29) := ⟨_, rfl⟩
  have HB := Lib.hid (show Below w.heap.size w W by rw [hW]; exact below_alloc _ _)
  have HWs := Lib.hid (show W.heap.size = w.heap.size + 1 by rw [hW]; simp)
  have HL0 := Lib.hid (show LsR w.heap.size w.heap.size W (.slice (some ⟨w.heap.size, 0, none⟩) 0 0) n [] (fun _ => (0, 0)) (fun _ => 0) (fun _ => 0) by
    rw [hW]
    exact ⟨World.ownsRow_lit w #[] 0 (Nat.le_refl _) (by decide) rfl, fun i hi => absurd hi (by simp), fun i j _ hi => absurd hi (by simp), fun g _ i hi => absurd hi (by simp)⟩)
  have HOr := Lib.hid (l03Orders_f n (by omega) (n - 1) [0] [] W.heap.size 1 (.slice none 0 0) (fun _ => 0) (fun _ => 0) W W (W.alloc (.cells #[.int .i64 0] 2)) (by simp; omega) (by simp) (by simp only [List.nil_append]; show (per n).length ≤ 1000; omega) (accM_nil _ _ _ _ _ _ _) (below_alloc _ _) (Nat.le_refl _) (row_zero W) (Nat.le_refl _) (by unfold maxLen; omega))
  rw [HWs.out] at HOr
  have HWe := Lib.hid hW
  clear hW
  go_enter Try.func49, Try.ntmps49
  go_wp2_with fail
  rw [← HWe.out]
  refine HOr.out.mono ?_
  rintro e w2 ⟨v2, C3, G3, rfl, hacc, _, _⟩
  have hacc := (show AccM W w2 26 2 v2 (per n).length (fun _ => n) C3 G3 (rowF (per n)) from hacc)
  obtain ⟨g2, c2, rfl⟩ := hacc.form hpos
  have HM := Lib.hid hacc.done.2.2
  have HB2 := Lib.hid (HB.out.trans (hacc.bel.mono HB.out.size))
  have HL2 := Lib.hid (HL0.out.trn (Trn.of_below (P := fun _ => False) hacc.bel) (fun _ _ h => h) (fun _ h => h.elim))
  have HMm := Lib.hid (show ∀ s, s < (per n).length → (per n).getD s [] ∈ per n from fun s hs => by
    rw [List.getD_eq_getElem?_getD, List.getElem?_eq_getElem hs]; exact List.getElem_mem hs)
  have HTk := Lib.hid (show ∀ s, s < (per n).length → ((per n).take (s + 1)).flatMap (rdL n m) = ((per n).take s).flatMap (rdL n m) ++ rdL n m ((per n).getD s []) from fun s hs => by
    rw [List.take_succ_eq_append_getElem hs, List.flatMap_append]
    simp [List.getD, List.getElem?_eq_getElem hs])
  have HTe := Lib.hid (show ((per n).take (per n).length).flatMap (rdL n m) = allX n m by rw [List.take_length]; rfl)
  clear hacc HOr HL0 HB
  obtain ⟨N, hN⟩ : ∃ N, N = (per n).length := ⟨_, rfl⟩
  rw [← hN] at HM hlen hpos HMm HTk HTe ⊢
  have HNl := Lib.hid hN
  clear hN
  go_wp2_with fail
  go_loopw [5, 7] (fun v x wr => ∃ (a : Nat) (X : List (Nat → Nat → Nat → Int)) (t k : Nat) (A : Nat → Nat × Nat) (Lo Hi : Nat → Nat), a ≤ N ∧ x = .int .i64 a ∧ X = ((per n).take a).flatMap (rdL n m) ∧ v = .slice (some ⟨t, 0, none⟩) X.length k ∧ LsR w.heap.size w.heap.size wr v n X A Lo Hi ∧ MatB wr 26 2 W.heap.size g2 N (fun _ => n) C3 G3 (rowF (per n)) ∧ Below w.heap.size w wr) (fun _ x _ => N - (intOf x).toNat)
  case atStart => exact ⟨0, [], _, _, _, _, _, by omega, rfl, by simp, rfl, HL2.out, HM.out, HB2.out⟩
  case round =>
    clear HL2 HM HB2
    obtain ⟨a, X, t, k, A, Lo, Hi, ha, rfl, hX, rfl, hl, hmat, hb⟩ := hrel
    have HX := Lib.hid hX
    have HL := Lib.hid hl
    have HM := Lib.hid hmat
    have HB := Lib.hid hb
    clear hX hl hmat hb
    by_cases haN : a < N
    · have HP := Lib.hid (HMm.out a haN)
      obtain ⟨p, hp⟩ : ∃ p, p = (per n).getD a [] := ⟨_, rfl⟩
      have HPe := Lib.hid hp
      have e1 := RowB.cell HM.out.outer haN
      have HRow := Lib.hid (show RowI wr 2 (G3 a) n (lF p) from by rw [hp]; exact (HM.out.row a haN).2.2.2)
      rw [← hp] at HP
      clear hp
      generalize G3 a = g3 at *
      generalize C3 a = c3 at *
      obtain ⟨wo, hwo⟩ : ∃ x, x = wr := ⟨_, rfl⟩
      subst hwo
      go_wp2_with fail
      go_loopw [9, 10] (fun y x wr => ∃ i : Nat, i ≤ n ∧ y = .bool true ∧ x = .int .i64 i ∧ wr = wo) (fun _ x _ => n - (intOf x).toNat)
      case atStart => exact ⟨0, by omega, rfl, rfl, rfl⟩
      case round =>
        obtain ⟨i, hi, rfl, rfl, rfl⟩ := hrel
        by_cases hin : i < n
        · have hpi := ((per_t h1 h7 HP.out).2.2 i hin).1
          have q1 : wr.cell? ⟨g3, i, none⟩ = some (.int .i64 ((p.getD i 0 : Nat) : Int)) := RowB.cell HRow.out hin
          have q2 : wr.cell? ⟨g3, p.getD i 0, none⟩ = some (.int .i64 ((p.getD (p.getD i 0) 0 : Nat) : Int)) := RowB.cell HRow.out hpi
          rw [per_twice h1 hn HP.out hin] at q2
          generalize p.getD i 0 = pi at *
          go_wp2_with fail
          exact ⟨⟨i + 1, by omega, rfl, by go_num, trivial⟩, by simp [intOf]; omega⟩
        · have HXl := Lib.hid (show X.length ≤ 390625 * 720 by
            have h8 := rdL_len hn hm ((per n).take a)
            rw [← HX.out] at h8
            have h9 : ((per n).take a).length ≤ 720 := by rw [List.length_take, ← HNl.out]; omega
            omega)
          have HGL := Lib.hid (show ∀ g cg C B CC G lo hi wq, GrW lo hi g n w.heap.size C B CC G wq (.slice (some ⟨t, 0, none⟩) X.length k) X (boF p) → w.heap.size ≤ wq.heap.size → Calls Try.prog 84 #[.slice (some ⟨g, 0, none⟩) n cg, .int .i64 0, .int .i64 (m : Nat), .slice (some ⟨t, 0, none⟩) X.length k] wq fun e w' => ∃ v', e = .returned v' ∧ GrW lo hi g n w.heap.size C B CC G w' v' (X ++ rdL n m p) (boF p) ∧ Trn (PG lo hi (.slice (some ⟨t, 0, none⟩) X.length k)) wq w' ∧ ∀ q, v'.ownBlock = some q → (Value.slice (some ⟨t, 0, none⟩) X.length k).ownBlock = some q ∨ wq.heap.size ≤ q from by
            intro g cg C B CC G lo hi wq hgr hwq
            have hnn : n = n - 1 + 1 := by omega
            have h9 := l07Grow_f lo hi g n cg m w.heap.size (n - 1) p C B CC G hnn (by omega) (plc_of (by omega) (by rw [← hnn]; exact HP.out)) (fun x hx => ((per_t h1 h7 HP.out).2.2 x hx).1) hm ((n - 1) * (n - 1) * (n - 1)) (boF p) wq (.slice (some ⟨t, 0, none⟩) X.length k) X (Nat.le_refl _) (fun x y z hxyz _ => boF_in p hxyz) (boF_du h1 hn HP.out) (fun x y z => boF_bd p x y z) (by
              rw [rdL_gro h1 hn HP.out, List.length_append]
              have := rdL_len hn hm [p]
              simp at this
              have := HXl.out
              omega) hwq hgr
            rw [Nat.sub_self, rdL_gro h1 hn HP.out] at h9
            exact h9)
          go_wp2_with fail
          refine (l06Empty_f n wr (by omega)).mono ?_
          rintro e w3 ⟨b, cb, rfl, ⟨C, B, CC, G, hcb⟩, hb3⟩
          have HC0 := Lib.hid (show CubB w3 wr.heap.size w3.heap.size b n (fun _ => n) (fun _ _ => n) C B CC G (boP p 0) by rw [boP_zero]; exact hcb)
          have HB3 := Lib.hid hb3
          have HR3 := Lib.hid (show RowI w3 2 g3 n (lF p) from RowB.below HRow.out hb3 (RowB.lt HRow.out))
          have HG3 := Lib.hid (RowB.lt HRow.out)
          clear hcb hb3
          obtain ⟨wb, hwb⟩ : ∃ x, x = wr := ⟨_, rfl⟩
          subst hwb
          go_wp2_with fail
          go_loopw [12] (fun x wq => ∃ u : Nat, u ≤ n ∧ x = .int .i64 u ∧ CubB wq wb.heap.size w3.heap.size b n (fun _ => n) (fun _ _ => n) C B CC G (boP p u) ∧ Trn (fun q => wb.heap.size ≤ q ∧ q < w3.heap.size) w3 wq) (fun x _ => n - (intOf x).toNat)
          case atStart => exact ⟨0, by omega, rfl, HC0.out, Trn.refl _ _⟩
          case round =>
            clear HC0
            obtain ⟨u, hu, rfl, hc, ht⟩ := hrel
            have HC := Lib.hid hc
            have HT := Lib.hid ht
            clear hc ht
            by_cases hun : u < n
            · obtain ⟨pu, hpu⟩ : ∃ x, x = p.getD u 0 := ⟨_, rfl⟩
              have hpl : pu < n := by rw [hpu]; exact ((per_t h1 h7 HP.out).2.2 u hun).1
              have hr1 : RowI wr 2 g3 n (lF p) := RowB.trn HR3.out HT.out (fun h => by have := HG3.out; omega)
              have HStep := Lib.hid (boP_step p u hpu.symm)
              have h0 := HC.out
              have c1 := RowB.cell h0.outer (show 0 < n by omega)
              have c2 := RowB.cell (h0.row 0 (by omega)).2.2.2.1.outer hun
              have c3 := RowB.cell ((h0.row 0 (by omega)).2.2.2.1.row u hun).2.2.2 hun
              have c4 := RowB.frozen ((h0.row 0 (by omega)).2.2.2.1.row u hun).2.2.2 u
              have k1 := h0.set (i := 0) (j := u) (k := u) (by omega) hun 1
              have d1 := RowB.cell k1.outer hun
              have d2 := RowB.cell (k1.row u hun).2.2.2.1.outer (show 0 < n by omega)
              have d3 := RowB.cell ((k1.row u hun).2.2.2.1.row 0 (by omega)).2.2.2 hun
              have d4 := RowB.frozen ((k1.row u hun).2.2.2.1.row 0 (by omega)).2.2.2 u
              have k2 := k1.set (i := u) (j := 0) (k := u) hun (by omega) 1
              have f1 := RowB.cell k2.outer hun
              have f2 := RowB.cell (k2.row u hun).2.2.2.1.outer hpl
              have f3 := RowB.cell ((k2.row u hun).2.2.2.1.row pu hpl).2.2.2 (show 0 < n by omega)
              have f4 := RowB.frozen ((k2.row u hun).2.2.2.1.row pu hpl).2.2.2 0
              have HK3 := Lib.hid ((k2.set (i := u) (j := pu) (k := 0) hun hpl 1).cong (g := boP p (u + 1)) (fun x _ y _ z _ => HStep.out x y z))
              have n1 : g3 ≠ G 0 u := by have := ((h0.row 0 (by omega)).2.2.2.1.row u hun).1; have := HG3.out; omega
              have n2 : g3 ≠ G u 0 := by have := ((h0.row u hun).2.2.2.1.row 0 (by omega)).1; have := HG3.out; omega
              have r2 : RowI (wr.setCell ⟨G 0 u, u, none⟩ (.int .i64 1)) 2 g3 n (lF p) := RowB.setOther hr1 (a := ⟨G 0 u, u, none⟩) n1 _
              have r3 : RowI ((wr.setCell ⟨G 0 u, u, none⟩ (.int .i64 1)).setCell ⟨G u 0, u, none⟩ (.int .i64 1)) 2 g3 n (lF p) := RowB.setOther r2 (a := ⟨G u 0, u, none⟩) n2 _
              have q1 : ((wr.setCell ⟨G 0 u, u, none⟩ (.int .i64 1)).setCell ⟨G u 0, u, none⟩ (.int .i64 1)).cell? ⟨g3, u, none⟩ = some (.int .i64 (pu : Nat)) := by rw [hpu]; exact RowB.cell r3 hun
              have m1 := h0.row 0 (by omega)
              have m2 := h0.row u hun
              have HTN := Lib.hid (show Trn (fun q => wb.heap.size ≤ q ∧ q < w3.heap.size) w3 (((wr.setCell ⟨G 0 u, u, none⟩ (.int .i64 1)).setCell ⟨G u 0, u, none⟩ (.int .i64 1)).setCell ⟨G u pu, 0, none⟩ (.int .i64 1)) from
                ((HT.out.setCell (p := ⟨G 0 u, u, none⟩) (show wb.heap.size ≤ G 0 u ∧ G 0 u < w3.heap.size from ⟨(m1.2.2.2.1.row u hun).1, m1.2.2.2.2 u hun⟩) _).setCell (p := ⟨G u 0, u, none⟩) (show wb.heap.size ≤ G u 0 ∧ G u 0 < w3.heap.size from ⟨(m2.2.2.2.1.row 0 (by omega)).1, m2.2.2.2.2 0 (by omega)⟩) _).setCell (p := ⟨G u pu, 0, none⟩) (show wb.heap.size ≤ G u pu ∧ G u pu < w3.heap.size from ⟨(m2.2.2.2.1.row pu hpl).1, m2.2.2.2.2 pu hpl⟩) _)
              clear h0 k1 k2 hr1 r2 r3 m1 m2 hpu HStep n1 n2
              generalize G 0 u = ga at *
              generalize G u 0 = gb at *
              generalize G u pu = gc at *
              generalize B 0 = ba at *
              generalize B u = bb at *
              generalize C 0 = ca at *
              generalize C u = cb' at *
              generalize CC 0 u = da at *
              generalize CC u 0 = db at *
              generalize CC u pu = dc at *
              go_wp2_with fail
              go_region
              go_wp2_with fail
              refine ⟨⟨u + 1, ?_, ?_, ?_, ?_⟩, ?_⟩
              · omega
              · go_num
              · exact HK3.out.below (Below.refl _ _).drew (Nat.le_refl _)
              · exact HTN.out.drew
              · simp [intOf]; omega
            · have hun2 : u = n := by omega
              have HCE := Lib.hid (show CubB wr wb.heap.size w3.heap.size b n (fun _ => n) (fun _ _ => n) C B CC G (boF p) from HC.out.cong (fun x hx y hy z _ => by rw [hun2]; exact boP_end p hx hy))
              clear hun2
              have HTo := Lib.hid (HT.out.mono (Q := PG wb.heap.size w3.heap.size (.slice (some ⟨t, 0, none⟩) X.length k)) (fun q _ h => Or.inl h))
              have HTb := Lib.hid (show Trn (PG wb.heap.size w3.heap.size (.slice (some ⟨t, 0, none⟩) X.length k)) wb wr from (Trn.of_below HB3.out).trans HTo.out)
              have HLb := Lib.hid (HL.out.trnG (P := fun q => wb.heap.size ≤ q ∧ q < w3.heap.size) ((Trn.of_below HB3.out).trans HT.out) (fun q hq h => by
                rcases HL.out.own.2 with ⟨e, _⟩ | ⟨g', cap', cur', e, _, hg', _⟩
                · cases e
                · cases e
                  simp only [Value.ownBlock, Option.some.injEq] at hq
                  have := (Array.getElem?_eq_some_iff.1 hg').1
                  omega) (fun i hi q hq hh => by have := (HL.out.cub i hi).2.1; omega))
              have HGW := Lib.hid (show GrW wb.heap.size w3.heap.size b n w.heap.size C B CC G wr (.slice (some ⟨t, 0, none⟩) X.length k) X (boF p) from
                ⟨HCE.out, ⟨A, Lo, Hi, HLb.out, fun i hi => Or.inl (HL.out.cub i hi).2.1⟩, fun q hq h => by
                  rcases HL.out.own.2 with ⟨e, _⟩ | ⟨g', cap', cur', e, _, hg', _⟩
                  · cases e
                  · cases e
                    simp only [Value.ownBlock, Option.some.injEq] at hq
                    have := (Array.getElem?_eq_some_iff.1 hg').1
                    omega, HT.out.size, ⟨t, k, rfl⟩⟩)
              have hwr : w.heap.size ≤ wr.heap.size := by have := HB.out.size; have := HTb.out.size; omega
              have HCALL := Lib.hid (HGL.out b cb C B CC G wb.heap.size w3.heap.size wr HGW.out hwr)
              clear HGL
              go_wp2_with fail
              refine HCALL.out.mono ?_
              rintro e w5 ⟨v5, rfl, hg5, ht5, ho5⟩
              obtain ⟨t5, k5, rfl⟩ := hg5.nn
              obtain ⟨A5, Lo5, Hi5, hl5, _⟩ := hg5.lst
              have HX5 := Lib.hid (show X ++ rdL n m p = ((per n).take (a + 1)).flatMap (rdL n m) by rw [HTk.out a haN, ← HX.out, HPe.out])
              have HL5 := Lib.hid hl5
              have HT5 := Lib.hid (show Trn (fun q => q = t) wb w5 from (HTb.out.trans2 ht5 (fun q _ h => h)).mono (fun q hq h => by
                rcases h with h | h
                · omega
                · simp only [Value.ownBlock, Option.some.injEq] at h; exact h.symm))
              have htw : w.heap.size ≤ t := by
                rcases HL.out.own.2 with ⟨e, _⟩ | ⟨g', cap', cur', e, hb', _⟩
                · cases e
                · cases e; exact hb'
              have HB5 := Lib.hid (show Below w.heap.size w w5 from HT5.out.below HB.out HB.out.size (fun q hq e => by omega))
              have HRn := Lib.hid (RowB_of_own HL.out.own)
              have HM5 := Lib.hid (show MatB w5 26 2 W.heap.size g2 N (fun _ => n) C3 G3 (rowF (per n)) from HM.out.trn HT5.out (fun e => RowB.ne HRn.out HM.out.outer (by decide) e.symm) (fun i hi e => RowB.ne HRn.out (show RowB wb 2 (G3 i) n _ from (HM.out.row i hi).2.2.2) (by decide) e.symm))
              clear hg5 ht5 ho5 hl5 HCALL
              go_wp2_with fail
              refine ⟨⟨a + 1, X ++ rdL n m p, t5, k5, A5, Lo5, Hi5, ?_, ?_, ?_, ?_, ?_, ?_, ?_⟩, ?_⟩
              · omega
              · go_num
              · exact HX5.out
              · rw [List.length_append]
              · have h9 := HL5.out
                rw [List.length_append] at h9
                exact h9
              · exact HM5.out
              · exact HB5.out
              · simp [intOf]; omega
    · have haN2 : a = N := by omega
      have HXE := Lib.hid (show X = allX n m by rw [HX.out, haN2]; exact HTe.out)
      clear haN2
      go_wp2_with fail
      go_ret
      exact ⟨t, k, A, Lo, Hi, by rw [← HXE.out]; rfl, by rw [← HXE.out]; exact HL.out, HB.out⟩
end Go.Proofs.Ytmdmojklagmmiaa
/- CountRingTables of both. -/
namespace Go.Proofs.Ytmdmojklagmmiaa
open Go.RowKit
set_option linter.unusedSimpArgs false
set_option linter.unusedVariables false
theorem ringTables_f (n m : Nat) (w : World) (h1 : 1 ≤ n) (hn : n ≤ 3) (hm : m ≤ 4) :
    Calls Try.prog 44 #[.int .i64 (n : Nat), .int .i64 (m : Nat)] w fun e w' => ∃ g k Z A Lo Hi, e = .returned (.slice (some ⟨g, 0, none⟩) Z.length k) ∧ Z.Perm (allX n m) ∧ SrtZ n Z ∧ LsR w.heap.size w.heap.size w' (.slice (some ⟨g, 0, none⟩) Z.length k) n Z A Lo Hi ∧ Below w.heap.size w w' :=
  ringTables_of n m w h1 hn hm (sortOK n (by omega))
/-- whether a rank and a bound are in their ranges -/
def lcB (n m : Int) : Bool := decide ((1 ≤ n ∧ n ≤ 3) ∧ 0 ≤ m ∧ m ≤ 4)
def lcC (n m : Int) : Int := if lcB n m then 0 else 2
theorem listCode_f (n m : Int) (w : World) : Calls Try.prog 43 #[.int .i64 n, .int .i64 m] w fun e w' => e = .returned (.int .i64 (lcC n m)) ∧ w = w' := by
  have H1 := Lib.hid (rangeCode_f n 1 3 w)
  have H2 := Lib.hid (rangeCode_f m 0 4 w)
  by_cases c1 : 1 ≤ n ∧ n ≤ 3
  · rw [rgC_in c1] at H1
    by_cases c2 : 0 ≤ m ∧ m ≤ 4
    · rw [rgC_in c2] at H2
      have HR := Lib.hid (show lcC n m = 0 by unfold lcC lcB; rw [decide_eq_true ⟨c1, c2⟩]; rfl)
      clear c1 c2
      go_enter Try.func43, Try.ntmps43
      go_wp2_with fail
      refine H1.out.mono ?_
      rintro e w' ⟨rfl, rfl⟩
      go_wp2_with fail
      refine H2.out.mono ?_
      rintro e w' ⟨rfl, rfl⟩
      go_wp2_with fail
      go_ret
      exact ⟨ret_int HR.out.symm, rfl⟩
    · rw [rgC_out c2] at H2
      have HR := Lib.hid (show lcC n m = 2 by unfold lcC lcB; rw [decide_eq_false (fun h => c2 h.2)]; rfl)
      clear c1 c2
      go_enter Try.func43, Try.ntmps43
      go_wp2_with fail
      refine H1.out.mono ?_
      rintro e w' ⟨rfl, rfl⟩
      go_wp2_with fail
      refine H2.out.mono ?_
      rintro e w' ⟨rfl, rfl⟩
      go_wp2_with fail
      go_ret
      exact ⟨ret_int HR.out.symm, rfl⟩
  · rw [rgC_out c1] at H1
    have HR := Lib.hid (show lcC n m = 2 by unfold lcC lcB; rw [decide_eq_false (fun h => c1 h.1)]; rfl)
    clear c1 H2
    go_enter Try.func43, Try.ntmps43
    go_wp2_with fail
    refine H1.out.mono ?_
    rintro e w' ⟨rfl, rfl⟩
    go_wp2_with fail
    go_ret
    exact ⟨ret_int HR.out.symm, rfl⟩
/-- the number of tables -/
def ctV (n m : Int) : Int := if lcB n m then ((allX n.toNat m.toNat).length : Nat) else 0
theorem implCount_f (k0 k1 : Int) (w : World) (_ : (Lit.int .i64 k0).wf = true) (_ : (Lit.int .i64 k1).wf = true) : Calls Try.prog 28 #[.int .i64 k0, .int .i64 k1] w (IntRes w (ctV k0 k1) (lcC k0 k1)) := by
  have HC := Lib.hid (listCode_f k0 k1 w)
  cases hb : lcB k0 k1
  · have HV := Lib.hid (show ctV k0 k1 = 0 by unfold ctV; rw [hb]; rfl)
    have HL := Lib.hid (show lcC k0 k1 = 2 by unfold lcC; rw [hb]; rfl)
    rw [HL.out] at HC
    clear hb
    go_enter Try.func28, Try.ntmps28
    go_wp2_with fail
    refine HC.out.mono ?_
    rintro e w' ⟨rfl, rfl⟩
    go_wp2_with fail
    go_ret2
    exact ⟨by rw [HV.out, HL.out]; rfl, Below.refl _ _⟩
  · have hc := of_decide_eq_true hb
    have HV := Lib.hid (show ctV k0 k1 = ((allX k0.toNat k1.toNat).length : Nat) by unfold ctV; rw [hb]; rfl)
    have HL := Lib.hid (show lcC k0 k1 = 0 by unfold lcC; rw [hb]; rfl)
    rw [HL.out] at HC
    obtain ⟨n, rfl⟩ : ∃ n : Nat, k0 = n := ⟨k0.toNat, by omega⟩
    obtain ⟨m, rfl⟩ : ∃ m : Nat, k1 = m := ⟨k1.toNat, by omega⟩
    have HT := Lib.hid (ringTables_f n m w (by omega) (by omega) (by omega))
    clear hb hc
    go_enter Try.func28, Try.ntmps28
    go_wp2_with fail
    refine HC.out.mono ?_
    rintro e w' ⟨rfl, rfl⟩
    go_wp2_with fail
    refine HT.out.mono ?_
    rintro e w' ⟨g, k, Z, A, Lo, Hi, rfl, hp, -, -, hb⟩
    have HB := Lib.hid hb
    have HZ := Lib.hid (show ((Z.length : Nat) : Int) = ctV n m by rw [HV.out, hp.length_eq]; rfl)
    clear hb hp HT
    go_wp2_with fail
    go_ret2
    exact ⟨by rw [HL.out, ← HZ.out]; rfl, HB.out⟩
theorem specCount_f (k0 k1 : Int) (w : World) (_ : (Lit.int .i64 k0).wf = true) (_ : (Lit.int .i64 k1).wf = true) : Calls Try.prog 27 #[.int .i64 k0, .int .i64 k1] w (IntRes w (ctV k0 k1) (lcC k0 k1)) := by
  have H1 := Lib.hid (l01In_any k0 1 3 w)
  have H2 := Lib.hid (l01In_any k1 0 4 w)
  by_cases c1 : 1 ≤ k0 ∧ k0 ≤ 3
  · have hb1 : inB 1 3 k0 = true := by simp [inB]; omega
    rw [hb1] at H1
    by_cases c2 : 0 ≤ k1 ∧ k1 ≤ 4
    · have hb2 : inB 0 4 k1 = true := by simp [inB]; omega
      rw [hb2] at H2
      have hb : lcB k0 k1 = true := decide_eq_true ⟨c1, c2⟩
      have HV := Lib.hid (show ctV k0 k1 = ((allX k0.toNat k1.toNat).length : Nat) by unfold ctV; rw [hb]; rfl)
      have HL := Lib.hid (show lcC k0 k1 = 0 by unfold lcC; rw [hb]; rfl)
      obtain ⟨n, rfl⟩ : ∃ n : Nat, k0 = n := ⟨k0.toNat, by omega⟩
      obtain ⟨m, rfl⟩ : ∃ m : Nat, k1 = m := ⟨k1.toNat, by omega⟩
      have HT := Lib.hid (l07All_f n m w (by omega) (by omega) (by omega))
      clear hb hb1 hb2 c1 c2
      go_enter Try.func27, Try.ntmps27
      go_wp2_with fail
      refine H1.out.mono ?_
      rintro e w' ⟨rfl, rfl⟩
      go_wp2_with fail
      refine H2.out.mono ?_
      rintro e w' ⟨rfl, rfl⟩
      go_wp2_with fail
      refine HT.out.mono ?_
      rintro e w' ⟨g, k, A, Lo, Hi, rfl, -, hb⟩
      have HB := Lib.hid hb
      have HZ := Lib.hid (show (((allX n m).length : Nat) : Int) = ctV n m by rw [HV.out]; rfl)
      clear hb HT
      go_wp2_with fail
      go_ret2
      exact ⟨by rw [HL.out, ← HZ.out]; rfl, HB.out⟩
    · have hb2 : inB 0 4 k1 = false := by simp [inB]; omega
      rw [hb2] at H2
      have hb : lcB k0 k1 = false := decide_eq_false (fun h => c2 h.2)
      have HV := Lib.hid (show ctV k0 k1 = 0 by unfold ctV; rw [hb]; rfl)
      have HL := Lib.hid (show lcC k0 k1 = 2 by unfold lcC; rw [hb]; rfl)
      clear hb hb1 hb2 c1 c2
      go_enter Try.func27, Try.ntmps27
      go_wp2_with fail
      refine H1.out.mono ?_
      rintro e w' ⟨rfl, rfl⟩
      go_wp2_with fail
      refine H2.out.mono ?_
      rintro e w' ⟨rfl, rfl⟩
      go_wp2_with fail
      go_ret2
      exact ⟨by rw [HV.out, HL.out]; rfl, Below.refl _ _⟩
  · have hb1 : inB 1 3 k0 = false := by simp [inB]; omega
    rw [hb1] at H1
    have hb : lcB k0 k1 = false := decide_eq_false (fun h => c1 h.1)
    have HV := Lib.hid (show ctV k0 k1 = 0 by unfold ctV; rw [hb]; rfl)
    have HL := Lib.hid (show lcC k0 k1 = 2 by unfold lcC; rw [hb]; rfl)
    clear hb hb1 c1 H2
    go_enter Try.func27, Try.ntmps27
    go_wp2_with fail
    refine H1.out.mono ?_
    rintro e w' ⟨rfl, rfl⟩
    go_wp2_with fail
    go_ret2
    exact ⟨by rw [HV.out, HL.out]; rfl, Below.refl _ _⟩
end Go.Proofs.Ytmdmojklagmmiaa
