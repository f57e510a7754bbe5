/- Merged: EnG, EnH, EnI. -/
import Derived.Test.YtmdmojklagmmiaaEnDF
import Derived.Lib.SliceRun
import Derived.WalkMore
import Derived.Laws.EntriesVeiled
import Derived.Test.YtmdmojklagmmiaaLs2
/- All small rings: the program's search. -/
namespace Go.Proofs.Ytmdmojklagmmiaa
open Go.RowKit
set_option linter.unusedSimpArgs false
set_option linter.unusedVariables false
/-- the captured variables that stay -/
structure SrF (n c m pd pr pb pp ps pf gd b : Nat) (d : List Nat) (w : World) : Prop where
  hd : w.cell? ⟨pd, 0, none⟩ = some (.slice (some ⟨gd, 0, none⟩) n c)
  hg : RowI w 2 gd n (lF d)
  hr : w.cell? ⟨pr, 0, none⟩ = some (.slice (some ⟨b, 0, none⟩) n n)
  hb : w.cell? ⟨pb, 0, none⟩ = some (.int .i64 (m : Nat))
  hp : w.cell? ⟨pp, 0, none⟩ = some (.func (.func 108) #[] #[.pointer (some ⟨pd, 0, none⟩), .pointer (some ⟨pr, 0, none⟩)])
  hs : w.cell? ⟨ps, 0, none⟩ = some (.func (.func 110) #[] #[.pointer (some ⟨pr, 0, none⟩), .pointer (some ⟨pf, 0, none⟩), .pointer (some ⟨pb, 0, none⟩), .pointer (some ⟨pp, 0, none⟩), .pointer (some ⟨ps, 0, none⟩)])
/-- where everything lies -/
structure SrB (lim lo hi g0 pd pr pb pp ps pf gd : Nat) : Prop where
  fx : ∀ k, (k = pd ∨ k = gd ∨ k = pr ∨ k = pb ∨ k = pp ∨ k = ps) → k < lim ∧ k ≠ g0 ∧ k ≠ pf ∧ ¬ (lo ≤ k ∧ k < hi)
  pf0 : pf < lim ∧ pf ≠ g0 ∧ ¬ (lo ≤ pf ∧ pf < hi)
  hi' : hi ≤ lim
  g0' : ¬ (lo ≤ g0 ∧ g0 < hi) ∧ g0 < lim
theorem SrF.trn {n c m pd pr pb pp ps pf gd b : Nat} {d : List Nat} {w w' : World} {P : Nat → Prop} (h : SrF n c m pd pr pb pp ps pf gd b d w) (ho : Trn P w w') (hP : ∀ k, (k = pd ∨ k = gd ∨ k = pr ∨ k = pb ∨ k = pp ∨ k = ps) → ¬ P k) : SrF n c m pd pr pb pp ps pf gd b d w' :=
  ⟨ho.cell h.hd (hP _ (by simp)), RowB.trn h.hg ho (hP _ (by simp)), ho.cell h.hr (hP _ (by simp)), ho.cell h.hb (hP _ (by simp)), ho.cell h.hp (hP _ (by simp)), ho.cell h.hs (hP _ (by simp))⟩
/-- the state of the search -/
structure SrW (lim lo hi g0 pd pr pb pp ps pf gd b n c m base : Nat) (d : List Nat) (C B : Nat → Nat) (CC G : Nat → Nat → Nat) (w : World) (v : Value) (X : List (Nat → Nat → Nat → Int)) (f : Nat → Nat → Nat → Int) : Prop where
  fix : SrF n c m pd pr pb pp ps pf gd b d w
  cub : CubB w lo hi b n (fun _ => n) (fun _ _ => n) C B CC G f
  cel : RowB w 42 pf 1 (fun _ => v)
  lst : ∃ A Lo Hi, LsR base lim w v n X A Lo Hi
  ob : ∀ g, v.ownBlock = some g → g = g0 ∨ lim ≤ g
  big : lim ≤ w.heap.size
  nn : ∃ g cap, v = .slice (some ⟨g, 0, none⟩) X.length cap
/-- what the search may turn -/
def PS (lo hi pf : Nat) (v : Value) (k : Nat) : Prop := (lo ≤ k ∧ k < hi) ∨ k = pf ∨ v.ownBlock = some k
theorem SrB.no {lim lo hi g0 pd pr pb pp ps pf gd : Nat} (h : SrB lim lo hi g0 pd pr pb pp ps pf gd) {v : Value} (hv : ∀ g, v.ownBlock = some g → g = g0 ∨ lim ≤ g) : ∀ k, (k = pd ∨ k = gd ∨ k = pr ∨ k = pb ∨ k = pp ∨ k = ps) → ¬ PS lo hi pf v k := fun k hk hp => by
  obtain ⟨h1, h2, h3, h4⟩ := h.fx k hk
  rcases hp with hp | hp | hp
  · exact h4 hp
  · exact h3 hp
  · rcases hv k hp with e | e
    · exact h2 e
    · omega
/-- the world turns in nothing that the search looks at -/
theorem SrW.kept {lim lo hi g0 pd pr pb pp ps pf gd b n c m base : Nat} {d : List Nat} {C B : Nat → Nat} {CC G : Nat → Nat → Nat} {w w' : World} {v : Value} {X : List (Nat → Nat → Nat → Int)} {f : Nat → Nat → Nat → Int} (h : SrW lim lo hi g0 pd pr pb pp ps pf gd b n c m base d C B CC G w v X f) (hb : Below w.heap.size w w') : SrW lim lo hi g0 pd pr pb pp ps pf gd b n c m base d C B CC G w' v X f := by
  have hT : Trn (fun _ => False) w w' := Trn.of_below hb
  obtain ⟨A, Lo, Hi, hl⟩ := h.lst
  exact ⟨h.fix.trn hT (fun _ _ h => h), h.cub.trn hT (fun _ h => h.elim), h.cel.trn hT (fun h => h), ⟨A, Lo, Hi, hl.trn hT (fun _ _ h => h) (fun _ h => h.elim)⟩, h.ob, Nat.le_trans h.big hb.size, h.nn⟩
/-- the cube alone turns -/
theorem SrW.cube {lim lo hi g0 pd pr pb pp ps pf gd b n c m base : Nat} {d : List Nat} {C B : Nat → Nat} {CC G : Nat → Nat → Nat} {w w' : World} {v : Value} {X : List (Nat → Nat → Nat → Int)} {f f' : Nat → Nat → Nat → Int} (h : SrW lim lo hi g0 pd pr pb pp ps pf gd b n c m base d C B CC G w v X f) (K : SrB lim lo hi g0 pd pr pb pp ps pf gd) (hT : Trn (fun k => lo ≤ k ∧ k < hi) w w') (hc : CubB w' lo hi b n (fun _ => n) (fun _ _ => n) C B CC G f') : SrW lim lo hi g0 pd pr pb pp ps pf gd b n c m base d C B CC G w' v X f' := by
  obtain ⟨A, Lo, Hi, hl⟩ := h.lst
  refine ⟨h.fix.trn hT (fun k hk hp => (K.fx k hk).2.2.2 hp), hc, h.cel.trn hT K.pf0.2.2, ⟨A, Lo, Hi, hl.trn hT (fun k hk hp => ?_) (fun k hp => by have := K.hi'; omega)⟩, h.ob, Nat.le_trans h.big hT.size, h.nn⟩
  rcases h.ob k hk with e | e
  · rw [e] at hp; exact K.g0'.1 hp
  · have := K.hi'; omega
theorem Trn.trans2 {P Q : Nat → Prop} {a b c : World} (h : Trn P a b) (k : Trn Q b c) (hq : ∀ i, i < a.heap.size → Q i → P i) : Trn P a c :=
  ⟨k.os.trans h.os, k.tape.trans h.tape, k.output.trans h.output, Nat.le_trans h.size k.size, fun i hi hp => (k.block i (Nat.lt_of_lt_of_le hi h.size) (fun hh => hp (hq i hi hh))).trans (h.block i hi hp)⟩
theorem cubAt {w : World} {lo hi b n : Nat} {C B : Nat → Nat} {CC G : Nat → Nat → Nat} {f : Nat → Nat → Nat → Int} (h : CubB w lo hi b n (fun _ => n) (fun _ _ => n) C B CC G f) : CubeAt w b 0 n B (fun _ => 0) C G (fun _ _ => 0) CC f :=
  ⟨h.outer.lt, fun i hi => ⟨by rw [Nat.zero_add]; exact RowB.cell h.outer hi, (h.row i hi).2.2.2.1.outer.lt⟩, fun i j hi hj => ⟨by rw [Nat.zero_add]; exact RowB.cell (h.row i hi).2.2.2.1.outer hj, RowB.lt ((h.row i hi).2.2.2.1.row j hj).2.2.2⟩, fun i j k hi hj hk => by rw [Nat.zero_add]; exact RowB.cell ((h.row i hi).2.2.2.1.row j hj).2.2.2 hk⟩
/-- the tables of the first u numbers -/
def srP (d : List Nat) (q m r : Nat) (f : Nat → Nat → Nat → Int) (i j k u : Nat) : List (Nat → Nat → Nat → Int) := (List.range u).flatMap fun (v : Nat) => srch d q m r (puC d f i j k v)
theorem srP_succ (d : List Nat) (q m r : Nat) (f : Nat → Nat → Nat → Int) (i j k u : Nat) : srP d q m r f i j k (u + 1) = srP d q m r f i j k u ++ srch d q m r (puC d f i j k u) := by
  unfold srP; rw [List.range_succ, List.flatMap_append]; simp
theorem srP_len (d : List Nat) (q m r : Nat) (f : Nat → Nat → Nat → Int) (i j k : Nat) : ∀ t u, (srP d q m r f i j k u).length ≤ (srP d q m r f i j k (u + t)).length
  | 0, u => Nat.le_refl _
  | t + 1, u => by
    have h1 := srP_len d q m r f i j k t u
    rw [← Nat.add_assoc, srP_succ, List.length_append]; omega
theorem SrW.push {lim lo hi g0 pd pr pb pp ps pf gd b n c m base : Nat} {d : List Nat} {C B : Nat → Nat} {CC G : Nat → Nat → Nat} {w u w5 : World} {v : Value} {X : List (Nat → Nat → Nat → Int)} {f : Nat → Nat → Nat → Int} {A : Nat → Nat × Nat} {Lo Hi : Nat → Nat} (h : SrW lim lo hi g0 pd pr pb pp ps pf gd b n c m base d C B CC G w v X f) (K : SrB lim lo hi g0 pd pr pb pp ps pf gd) (hl : LsR base lim w v n X A Lo Hi)
    {a g k : Nat} (hb : Below w.heap.size w u) (hc : CubO u w.heap.size u.heap.size a n (fun _ => n) (fun _ _ => n) f) (o : Obj) (hown : w5.ownsRow base 29 1 (.slice (some ⟨g, 0, none⟩) (X.length + 1) k) (X.length + 1) (rgL n A X.length ++ [.slice (some ⟨a, 0, none⟩) n n])) (hgr : (u.alloc o).grownBy w5 v.ownBlock) (hg : v.ownBlock = some g ∨ g = (u.alloc o).heap.size) :
    RowB w5 42 pf 1 (fun _ => v) ∧ SrW lim lo hi g0 pd pr pb pp ps pf gd b n c m base d C B CC G (w5.setCell ⟨pf, 0, none⟩ (.slice (some ⟨g, 0, none⟩) (X.length + 1) k)) (.slice (some ⟨g, 0, none⟩) (X.length + 1) k) (X ++ [f]) f ∧ Trn (PS lo hi pf v) w (w5.setCell ⟨pf, 0, none⟩ (.slice (some ⟨g, 0, none⟩) (X.length + 1) k)) ∧ ∀ q, (Value.slice (some ⟨g, 0, none⟩) (X.length + 1) k).ownBlock = some q → v.ownBlock = some q ∨ w.heap.size ≤ q := by
  have hbig := h.big
  have hsu := hb.size
  have hL := hl.push (a := (a, n)) hb (Nat.le_refl _) hbig hsu hc (below_alloc u o) hown hgr (v' := .slice (some ⟨g, 0, none⟩) (X.length + 1) k) (g := g) rfl (hg.imp id (fun e => Nat.le_of_eq e.symm))
  have hT : Trn (fun q => v.ownBlock = some q) w w5 := (Trn.of_below hb).trans ((Trn.of_below (below_alloc u o)).trans (Trn.of_grown hgr fun q hq => hq))
  have hpf : ¬ v.ownBlock = some pf := fun e => by
    rcases h.ob pf e with e2 | e2
    · exact K.pf0.2.1 e2
    · have := K.pf0.1; omega
  have hcel := h.cel.trn hT hpf
  have hlo : ∀ q, v.ownBlock = some q → ¬ (lo ≤ q ∧ q < hi) := fun q hq hh => by
    rcases h.ob q hq with e | e
    · rw [e] at hh; exact K.g0'.1 hh
    · have := K.hi'; omega
  have hT2 : Trn (PS lo hi pf v) w (w5.setCell ⟨pf, 0, none⟩ (.slice (some ⟨g, 0, none⟩) (X.length + 1) k)) := (hT.mono (Q := PS lo hi pf v) (fun q _ hq => Or.inr (Or.inr hq))).setCell (p := ⟨pf, 0, none⟩) (show PS lo hi pf v pf from Or.inr (Or.inl rfl)) _
  have hT3 : Trn (fun q => v.ownBlock = some q ∨ q = pf) w (w5.setCell ⟨pf, 0, none⟩ (.slice (some ⟨g, 0, none⟩) (X.length + 1) k)) := (hT.mono (Q := fun q => v.ownBlock = some q ∨ q = pf) (fun q _ hq => Or.inl hq)).setCell (p := ⟨pf, 0, none⟩) (show v.ownBlock = some pf ∨ pf = pf from Or.inr rfl) _
  have hgs : v.ownBlock = some g ∨ w.heap.size ≤ g := hg.imp id (fun e => by rw [e]; simp; omega)
  have hsz := hT2.size
  refine ⟨hcel, ⟨h.fix.trn hT2 (K.no h.ob), h.cub.trn hT3 (fun q hq hh => ?_), (hcel.set 0 _).congr (fun q hq => by rw [if_pos (by omega)]), ⟨_, _, _, hL.trn (P := fun q => q = pf) ((Trn.refl (fun q => q = pf) w5).setCell (p := ⟨pf, 0, none⟩) (show pf = pf from rfl) _) (fun q hq e => ?_) (fun q e => by rw [e]; exact K.pf0.1)⟩, fun q hq => ?_, by omega, ⟨g, k, by rw [List.length_append]; rfl⟩⟩, hT2, fun q hq => ?_⟩
  · rcases hq with hq | hq
    · exact hlo q hq hh
    · rw [hq] at hh; exact K.pf0.2.2 hh
  · simp only [Value.ownBlock, Option.some.injEq] at hq
    subst hq
    rw [e] at hgs
    rcases hgs with h1 | h1
    · exact hpf h1
    · have := K.pf0.1; omega
  · simp only [Value.ownBlock, Option.some.injEq] at hq
    subst hq
    rcases hgs with h1 | h1
    · exact h.ob _ h1
    · right; omega
  · simp only [Value.ownBlock, Option.some.injEq] at hq
    subst hq
    exact hgs
def nxF (i j k t : Nat) : Int := if t = 0 then (i : Nat) else if t = 1 then (j : Nat) else (k : Nat)
set_option maxRecDepth 100000 in
set_option maxHeartbeats 8000000 in
theorem search_f (lim lo hi g0 pd pr pb pp ps pf gd b n c m base q : Nat) (d : List Nat) (C B : Nat → Nat) (CC G : Nat → Nat → Nat) (K : SrB lim lo hi g0 pd pr pb pp ps pf gd) (hnq : n = q + 1) (hq : q ≤ 2) (P : Plc q d) (hd : ∀ x, x < n → d.getD x 0 < n) (hm : m ≤ 4) (hbase : base ≤ lim) :
    ∀ (r : Nat) (f : Nat → Nat → Nat → Int) (w : World) (v : Value) (X : List (Nat → Nat → Nat → Int)), r ≤ q * q * q → (∀ x y z, inP q x y z → pN q x y z < q * q * q - r → f x y z ≠ -1) → GdF d q m f → (X ++ srch d q m r f).length ≤ 1000000000 → SrW lim lo hi g0 pd pr pb pp ps pf gd b n c m base d C B CC G w v X f →
    Calls Try.prog 110 #[.pointer (some ⟨pr, 0, none⟩), .pointer (some ⟨pf, 0, none⟩), .pointer (some ⟨pb, 0, none⟩), .pointer (some ⟨pp, 0, none⟩), .pointer (some ⟨ps, 0, none⟩)] w fun e w' => e = .returned (.tuple #[]) ∧ ∃ v', SrW lim lo hi g0 pd pr pb pp ps pf gd b n c m base d C B CC G w' v' (X ++ srch d q m r f) f ∧ Trn (PS lo hi pf v) w w' ∧ ∀ g, v'.ownBlock = some g → v.ownBlock = some g ∨ w.heap.size ≤ g := by
  intro r
  induction r using Nat.strongRecOn with
  | _ r ih =>
  intro f w v X hr hcl hgd hlen hst
  have HIH := Lib.hid ih
  have HCL := Lib.hid hcl
  have HGD := Lib.hid hgd
  have HLE := Lib.hid hlen
  have HK := Lib.hid K
  have HP := Lib.hid P
  have HD := Lib.hid hd
  have HNQ := Lib.hid hnq
  have hn3 : n ≤ 3 := by omega
  have hn1 : 1 ≤ n := by omega
  have HST := Lib.hid hst
  clear ih hcl hgd hlen K P hd hnq hst
  obtain ⟨W, hW⟩ : ∃ W, W = w.alloc (.cells #[.int .i64 0, .int .i64 0, .int .i64 0] 124) := ⟨_, rfl⟩
  have HB := Lib.hid (show Below w.heap.size w W by rw [hW]; exact below_alloc _ _)
  have HS := Lib.hid (HST.out.kept HB.out)
  have HWs := Lib.hid (show W.heap.size = w.heap.size + 1 by rw [hW]; simp)
  have HN0 := Lib.hid (show RowI W 124 w.heap.size 3 (fun _ => 0) by
    rw [hW]
    refine ⟨_, heap_alloc_new w _, fun t ht => ?_⟩
    rcases (by omega : t = 0 ∨ t = 1 ∨ t = 2) with rfl | rfl | rfl <;> rfl)
  have er0 := HS.out.fix.hr
  have er := er0
  rw [hW] at er
  have HWe := Lib.hid hW
  clear hW
  go_enter Try.func110, Try.ntmps110
  go_step3
  go_wp2_with fail
  go_step3
  go_wp2_with fail
  rw [← HWe.out]
  clear er
  go_loopw [6, 17] (fun y x wr => y = .bool true ∧ ∃ i : Nat, i ≤ n ∧ x = .int .i64 i ∧ wr = W ∧ ∀ x y z, x < i → y < n → z < n → f x y z ≠ -1) (fun _ x _ => n - (intOf x).toNat)
  case atStart => exact ⟨rfl, 0, by omega, rfl, rfl, fun x y z h => absurd h (by omega)⟩
  case round =>
    obtain ⟨rfl, i, hi', rfl, rfl, hbi⟩ := hrel
    have HBI := Lib.hid hbi
    clear hbi
    by_cases hin : i < n
    · have c1 := RowB.cell HS.out.cub.outer hin
      go_wp2_with fail
      go_loopw [6, 24] (fun y x wq => y = .bool true ∧ ∃ j : Nat, j ≤ n ∧ x = .int .i64 j ∧ wq = wr ∧ ∀ y z, y < j → z < n → f i y z ≠ -1) (fun _ x _ => n - (intOf x).toNat)
      case atStart => exact ⟨rfl, 0, by omega, rfl, rfl, fun y z h => absurd h (by omega)⟩
      case round =>
        obtain ⟨rfl, j, hj, rfl, rfl, hbj⟩ := hrel
        have HBJ := Lib.hid hbj
        clear hbj
        by_cases hjn : j < n
        · have hmat := (HS.out.cub.row i hin).2.2.2.1
          have c2 := RowB.cell hmat.outer hjn
          have HX := Lib.hid (index_f (G i j) n (CC i j) (-1) (f i j) wr (hmat.row j hjn).2.2.2 (by omega))
          have HZ := Lib.hid (ixZ_cases (f i j) (-1) n)
          clear hmat
          generalize ixZ (f i j) (-1) n = rz at *
          rcases HZ.out with ⟨rfl, hno⟩ | ⟨k, rfl, hkn, hfk, hbk⟩
          · have HNO := Lib.hid hno
            clear hno HZ
            go_wp2_with fail
            refine HX.out.mono ?_
            rintro e w2 ⟨rfl, rfl⟩
            clear HX
            go_wp2_with fail
            refine ⟨⟨rfl, j + 1, ?_, ?_, trivial, ?_⟩, ?_⟩
            · omega
            · go_num
            · intro y z hy hz
              by_cases e : y = j
              · rw [e]; exact HNO.out z hz
              · exact HBJ.out y z (by omega) hz
            · simp [intOf]; omega
          · have HFK := Lib.hid hfk
            have HBK := Lib.hid hbk
            clear hfk hbk HZ
            have HIN := Lib.hid (HGD.out.opn i j k HFK.out)
            have HBF := Lib.hid (show ∀ x y z, inP q x y z → bef x y z i j k → f x y z ≠ -1 from fun x y z hxyz hbf => by
              have hn := HNQ.out
              obtain ⟨_, a1, _, a2, _, a3⟩ := hxyz
              rcases hbf with h | ⟨h, h2 | ⟨h2, h3⟩⟩
              · exact HBI.out x y z h (by omega) (by omega)
              · rw [h]; exact HBJ.out y z h2 (by omega)
              · rw [h, h2]; exact HBK.out z h3)
            have HNM := Lib.hid (HP.out.num HIN.out)
            have HQR := Lib.hid (show q * q * q - r ≤ pN q i j k by
              by_cases e : pN q i j k < q * q * q - r
              · exact absurd HFK.out (HCL.out i j k HIN.out e)
              · omega)
            have HSO := Lib.hid (show srch d q m r f = srP d q m (q * q * q - pN q i j k - 1) f i j k (m + 1) from srch_open hq HP.out HIN.out HFK.out HBF.out r hr HQR.out)
            obtain ⟨r', hr'⟩ : ∃ r', r' = q * q * q - pN q i j k - 1 := ⟨_, rfl⟩
            rw [← hr'] at HSO
            have HR := Lib.hid (show r' < r ∧ r' ≤ q * q * q ∧ q * q * q - r' = pN q i j k + 1 by have := HNM.out.1; have := HQR.out; omega)
            clear hr'
            have n0 := RowB.cell HN0.out (show 0 < 3 by omega)
            have n1 := RowB.cell HN0.out (show 1 < 3 by omega)
            have n2 := RowB.cell HN0.out (show 2 < 3 by omega)
            have f0 := RowB.frozen HN0.out 0
            have f1 := RowB.frozen HN0.out 1
            have f2 := RowB.frozen HN0.out 2
            have eb0 := HS.out.fix.hb
            have hlw : lim ≤ w.heap.size := HST.out.big
            have q1 : (pb = w.heap.size) = False := eq_false (by have := (HK.out.fx pb (by simp)).1; omega)
            have q2 : (w.heap.size = pb) = False := eq_false (by have := (HK.out.fx pb (by simp)).1; omega)
            have wm : IntKind.i64.wrap ((m : Int) + 1) = ((m + 1 : Nat) : Int) := by rw [IntWalk.i64_in _ (by omega)]; omega
            go_wp2_with fail
            refine HX.out.mono ?_
            rintro e w2 ⟨rfl, rfl⟩
            clear HX
            go_wp2_with fail
            obtain ⟨WN, hWN⟩ : ∃ x, x = ((wr.setCell ⟨w.heap.size, 0, none⟩ (.int .i64 (i : Nat))).setCell ⟨w.heap.size, 1, none⟩ (.int .i64 (j : Nat))).setCell ⟨w.heap.size, 2, none⟩ (.int .i64 (k : Nat)) := ⟨_, rfl⟩
            rw [← hWN]
            have HBN := Lib.hid (show Below w.heap.size w WN by rw [hWN]; exact ((HB.out.setCell (p := ⟨w.heap.size, 0, none⟩) (Nat.le_refl _) _).setCell (p := ⟨w.heap.size, 1, none⟩) (Nat.le_refl _) _).setCell (p := ⟨w.heap.size, 2, none⟩) (Nat.le_refl _) _)
            have HNX := Lib.hid (show RowI WN 124 w.heap.size 3 (nxF i j k) by
              rw [hWN]
              refine RowI.congr (RowI.set (RowI.set (RowI.set HN0.out 0 _) 1 _) 2 _) fun t ht => ?_
              rcases (by omega : t = 0 ∨ t = 1 ∨ t = 2) with rfl | rfl | rfl <;> rfl)
            have HSN := Lib.hid (HST.out.kept HBN.out)
            have HWN := Lib.hid (show w.heap.size + 1 ≤ WN.heap.size by rw [hWN]; have := HWs.out; simp; omega)
            have HBP := Lib.hid (show ∀ x y z, inP q x y z → pN q x y z < pN q i j k → f x y z ≠ -1 from fun x y z hxyz hlt => HBF.out x y z hxyz (by
              have h := ord_bef hq HNM.out.1 hlt
              obtain ⟨_, a1, a2, a3⟩ := HP.out.num hxyz
              obtain ⟨_, b1, b2, b3⟩ := HNM.out
              rw [a1, a2, a3, b1, b2, b3] at h
              exact h))
            clear hWN n0 n1 n2 f0 f1 f2 eb0 q1 q2 c1 c2 er0 HN0 HBI HBJ HBK HB HS HWs HWe HBF
            go_loopw [50] (fun x wq => ∃ (u : Nat) (cur : Nat → Nat → Nat → Int) (v' : Value), u ≤ m + 1 ∧ x = .int .i64 u ∧ SrW lim lo hi g0 pd pr pb pp ps pf gd b n c m base d C B CC G wq v' (X ++ srP d q m r' f i j k u) cur ∧ (∀ z, puC d cur i j k z = puC d f i j k z) ∧ RowI wq 124 w.heap.size 3 (nxF i j k) ∧ Trn (PS lo hi pf v) w wq ∧ ∀ g, v'.ownBlock = some g → v.ownBlock = some g ∨ w.heap.size + 1 ≤ g) (fun x _ => m + 1 - (intOf x).toNat)
            case atStart => exact ⟨0, f, v, by omega, rfl, by rw [show X ++ srP d q m r' f i j k 0 = X by simp [srP]]; exact HSN.out, fun _ => rfl, HNX.out, Trn.of_below HBN.out, fun g hg => Or.inl hg⟩
            case round =>
              clear HSN HNX HBN HWN
              obtain ⟨u, cur, v', hu, rfl, hsw, hpu, hnx, htr, hgw⟩ := hrel
              have HSW := Lib.hid hsw
              have HPU := Lib.hid hpu
              have HNX := Lib.hid hnx
              have HTR := Lib.hid htr
              have HGW := Lib.hid hgw
              clear hsw hpu hnx htr hgw
              have ep := HSW.out.fix.hp
              have es := HSW.out.fix.hs
              have n0 := RowB.cell HNX.out (show 0 < 3 by omega)
              have n1 := RowB.cell HNX.out (show 1 < 3 by omega)
              have n2 := RowB.cell HNX.out (show 2 < 3 by omega)
              simp only [nxF, if_pos, if_neg (show ¬ (1 = 0) by omega), if_neg (show ¬ (2 = 0) by omega), if_neg (show ¬ (2 = 1) by omega)] at n0 n1 n2
              by_cases hum : u < m + 1
              · have HPT := Lib.hid (put_f pd pr gd n c n b lo hi d i j k u C B CC G cur wr HSW.out.fix.hd HSW.out.fix.hg HSW.out.fix.hr HSW.out.cub HD.out (by have := HNQ.out; have := HIN.out; unfold inP at this; omega) (by have := HNQ.out; have := HIN.out; unfold inP at this; omega) (by omega) (HK.out.fx pr (by simp)).2.2.2 (Nat.le_trans HK.out.hi' HSW.out.big))
                go_wp2_with fail
                refine HPT.out.mono ?_
                rintro e w2 ⟨rfl, hc2, ht2⟩
                rw [HPU.out] at hc2
                have HS2 := Lib.hid (HSW.out.cube HK.out ht2 hc2)
                have HNX2 := Lib.hid (RowB.trn HNX.out ht2 (fun h => by have := HK.out.hi'; have := HST.out.big; omega))
                have HTR2 := Lib.hid (HTR.out.trans2 ht2 (fun t _ h => Or.inl h))
                have es2 := HS2.out.fix.hs
                have HCLN := Lib.hid (show ∀ x y z, inP q x y z → pN q x y z < q * q * q - r' → puC d f i j k u x y z ≠ -1 from fun x y z hxyz hp => by
                  rw [HR.out.2.2] at hp
                  unfold puC
                  split
                  · omega
                  · rename_i hno
                    by_cases e : pN q x y z = pN q i j k
                    · obtain ⟨rfl, rfl, rfl⟩ := pN_inj HP.out hxyz HIN.out e
                      exact absurd (self_trn d x y z) hno
                    · exact HBP.out x y z hxyz (by omega))
                have HCALL := Lib.hid (HIH.out r' HR.out.1 (puC d f i j k u) w2 v' (X ++ srP d q m r' f i j k u) HR.out.2.1 HCLN.out (HGD.out.put HP.out HIN.out (by omega)) (by
                  have h1 := HLE.out
                  rw [HSO.out] at h1
                  have h2 := srP_len d q m r' f i j k (m - u) (u + 1)
                  rw [show u + 1 + (m - u) = m + 1 by omega, srP_succ] at h2
                  simp only [List.length_append] at h1 h2 ⊢
                  omega) HS2.out)
                clear hc2 ht2 ep es n0 n1 n2 HPT HCLN
                go_wp2_with fail
                refine HCALL.out.mono ?_
                rintro e w3 ⟨rfl, v3, hs3, ht3, hg3⟩
                have HS3 := Lib.hid (show SrW lim lo hi g0 pd pr pb pp ps pf gd b n c m base d C B CC G w3 v3 (X ++ srP d q m r' f i j k (u + 1)) (puC d f i j k u) by rw [srP_succ, ← List.append_assoc]; exact hs3)
                have HNX3 := Lib.hid (RowB.trn HNX2.out ht3 (fun h => by
                  have h1 := HK.out.hi'; have h2 := HST.out.big; have h3 := HK.out.pf0.1
                  rcases h with h | h | h
                  · omega
                  · omega
                  · rcases HGW.out _ h with h4 | h4
                    · obtain ⟨A, Lo, Hi, hl⟩ := HST.out.lst
                      rcases hl.own.2 with ⟨e, _⟩ | ⟨g', cap', cur', e, _, hg', _⟩
                      · rw [e] at h4; cases h4
                      · rw [e] at h4
                        simp only [Value.ownBlock, Option.some.injEq] at h4
                        have := (Array.getElem?_eq_some_iff.1 hg').1
                        omega
                    · omega))
                have HTR3 := Lib.hid (HTR2.out.trans2 ht3 (fun t ht h => by
                  rcases h with h | h | h
                  · exact Or.inl h
                  · exact Or.inr (Or.inl h)
                  · rcases HGW.out _ h with h4 | h4
                    · exact Or.inr (Or.inr h4)
                    · omega))
                have HGW3 := Lib.hid (show ∀ g, v3.ownBlock = some g → v.ownBlock = some g ∨ w.heap.size + 1 ≤ g from fun g hg => by
                  rcases hg3 g hg with h | h
                  · exact HGW.out g h
                  · right
                    have h1 := RowB.lt HNX2.out
                    omega)
                clear hs3 ht3 hg3 es2 HCALL
                go_wp2_with fail
                refine ⟨⟨u + 1, puC d f i j k u, v3, ?_, ?_, ?_, ?_, ?_, ?_, ?_⟩, ?_⟩
                · omega
                · go_num
                · exact HS3.out
                · exact fun z => puC_puC d f i j k u z
                · exact HNX3.out
                · exact HTR3.out
                · exact HGW3.out
                · simp [intOf]; omega
              · have HPT := Lib.hid (put_f pd pr gd n c n b lo hi d i j k (-1) C B CC G cur wr HSW.out.fix.hd HSW.out.fix.hg HSW.out.fix.hr HSW.out.cub HD.out (by have := HNQ.out; have := HIN.out; unfold inP at this; omega) (by have := HNQ.out; have := HIN.out; unfold inP at this; omega) (by omega) (HK.out.fx pr (by simp)).2.2.2 (Nat.le_trans HK.out.hi' HSW.out.big))
                have hu1 : u = m + 1 := by omega
                have HS1 := Lib.hid (show SrW lim lo hi g0 pd pr pb pp ps pf gd b n c m base d C B CC G wr v' (X ++ srch d q m r f) cur by rw [HSO.out, ← hu1]; exact HSW.out)
                clear hu1
                go_wp2_with fail
                refine HPT.out.mono ?_
                rintro e w2 ⟨rfl, hc2, ht2⟩
                rw [HPU.out, puC_back HGD.out HIN.out HFK.out] at hc2
                have HS2 := Lib.hid (HS1.out.cube HK.out ht2 hc2)
                have HTR2 := Lib.hid (HTR.out.trans2 ht2 (fun t _ h => Or.inl h))
                clear hc2 ht2 ep es n0 n1 n2 HPT
                go_wp2_with fail
                rw [Exit.noGoto_normal]
                go_end0
                exact ⟨rfl, v', HS2.out, HTR2.out, fun g hg => (HGW.out g hg).imp id (fun h => by omega)⟩
        · have hjn2 : j = n := by omega
          have HBJ2 := Lib.hid (show ∀ y z, y < n → z < n → f i y z ≠ -1 from fun y z hy hz => HBJ.out y z (by omega) hz)
          clear hjn2
          go_wp2_with fail
          refine ⟨⟨rfl, i + 1, ?_, ?_, trivial, ?_⟩, ?_⟩
          · omega
          · go_num
          · intro x y z hx hy hz
            by_cases e : x = i
            · rw [e]; exact HBJ2.out y z hy hz
            · exact HBI.out x y z (by omega) hy hz
          · simp [intOf]; omega
    · have HFU := Lib.hid (show ∀ x y z, x < n → y < n → z < n → f x y z ≠ -1 from fun x y z hx hy hz => HBI.out x y z (by omega) hy hz)
      have HBD := Lib.hid (show ∀ x y z, x < n → y < n → z < n → 0 ≤ f x y z ∧ f x y z ≤ 1000 from fun x y z hx hy hz => by
        have h1 := HFU.out x y z hx hy hz
        rcases HGD.out.bd x y z with h2 | h2
        · exact absurd h2 h1
        · omega)
      have HFL := Lib.hid (fault_f b 0 n n B (fun _ => 0) C G (fun _ _ => 0) CC f wr (cubAt HS.out.cub) (by omega) (by omega) HBD.out)
      have HSO := Lib.hid (show srch d q m r f = if flt n f = [] then [f] else [] by
        have hn := HNQ.out
        rw [hn]
        exact srch_full HP.out (fun x y z hxyz => by obtain ⟨_, _, _, _, _, _⟩ := hxyz; exact HFU.out x y z (by omega) (by omega) (by omega)) r hr)
      have qe1 : ∀ w : World, (binOp .eql 26 (.slice none 0 0) (.slice none 0 0)).run Try.prog w = .ok (.bool true) w := fun w => Lib.run_eql_slice_nil w 26 2 none 0 0 0 0 Try.underlying26
      have qe2 : ∀ (w : World) (g : Addr) (n c : Nat), (binOp .eql 26 (.slice (some g) n c) (.slice none 0 0)).run Try.prog w = .ok (.bool false) w := fun w g n c => Lib.run_eql_slice_nil w 26 2 (some g) n c 0 0 Try.underlying26
      go_wp2_with fail
      refine HFL.out.mono ?_
      intro e w3 hres
      clear er0 HFL
      rcases hres with ⟨hl, rfl, hb3⟩ | ⟨hl, g3, c3, rfl, hg3, hr3, hb3⟩
      · rw [if_pos hl] at HSO
        have HB3 := Lib.hid (HB.out.trans (hb3.mono HB.out.size))
        have HS3 := Lib.hid (HS.out.kept hb3)
        have er3 := HS3.out.fix.hr
        have ef3 := RowB.cell HS3.out.cel (show 0 < 1 by omega)
        have HSd := Lib.hid (HS3.out.kept (Below.refl _ w3).drew)
        obtain ⟨A, Lo, Hi, hls⟩ := HSd.out.lst
        have HLS := Lib.hid hls
        have HCP := Lib.hid (fun u (hu : Below w3.heap.size w3 u) => copied_f b 0 n n B (fun _ => 0) C G (fun _ _ => 0) CC f u ((cubAt HS3.out.cub).below hu) (by omega))
        have hXl : X.length ≤ 1000000000 := by have := HLE.out; rw [List.length_append] at this; omega
        have hbl : base ≤ w3.heap.size := by have := HS3.out.big; omega
        have hz9 : w3.drew.heap.size = w3.heap.size := rfl
        clear hb3 hl HS hls
        go_wp2_with fail
        go_region_law (first | (refine stepRing _ (by rfl) _ _ (by rfl) base _ X.length _ (by rfl) ((own_trn HLS.out.own (Trn.of_below (P := fun _ => False) HBc.out) (fun _ _ h => h)).alloc _) ⟨u.heap.size, 0, none⟩ (some ⟨a, 0, none⟩) n n (by rfl) (cell_one_new _ _ _) (by omega) (by simp; omega) ?_; intro g5 c5 w5 hown5 hgr5 hat5; have HPU := Lib.hid (HSd.out.push HK.out HLS.out HBc.out HCa.out _ hown5 hgr5 hat5); have p1 := RowB.cell HPU.out.1 (show 0 < 1 by omega); have p2 := RowB.frozen HPU.out.1 0; clear hown5 hgr5 hat5) | ((try go_simp); go_at_call 112; refine (HCP.out _ (by first | exact (Below.refl _ _).drew | exact Below.refl _ _)).mono ?_; rintro e u ⟨a, rfl, hca, hba⟩; have HCa := Lib.hid hca; have HBc := Lib.hid hba; have hus : w3.heap.size ≤ u.heap.size := hba.size; have p3 := RowB.cell (RowB.below HS3.out.cel (show Below w3.heap.size w3 u from (Below.refl _ w3).drew.trans hba) (RowB.lt HS3.out.cel)) (show 0 < 1 by omega); have p4 : ∀ o, (u.alloc o).cell? ⟨pf, 0, none⟩ = some v := fun o => (World.cell?_alloc_past (w := u) o pf 0 (by have := RowB.lt HS3.out.cel; omega)).trans p3; clear hca hba))
        all_goals
          clear p1 p2 p3 p4 er3 ef3
          go_wp2_with fail
          rw [Exit.noGoto_ret]
          exact bodyPost_ret (results_none Try.results110 _ _ _) rfl ⟨rfl, _, by rw [HSO.out]; exact HPU.out.2.1, (show Trn (PS lo hi pf v) w w3.drew from Trn.of_below HB3.out.drew).trans HPU.out.2.2.1, fun g hg => (HPU.out.2.2.2 g hg).imp id (fun h => by have := HB3.out.size; omega)⟩
      · rw [if_neg hl] at HSO
        have HB3 := Lib.hid (HB.out.trans (hb3.mono HB.out.size))
        have HS3 := Lib.hid (HS.out.kept hb3)
        clear hb3 hl HS hr3
        go_wp2_with fail
        rw [Exit.noGoto_ret]
        exact bodyPost_ret (results_none Try.results110 _ _ _) rfl ⟨rfl, v, by rw [HSO.out, List.append_nil]; exact HS3.out, Trn.of_below HB3.out, fun g hg => Or.inl hg⟩
end Go.Proofs.Ytmdmojklagmmiaa
/- All small rings: the program's rings with some duals. -/
namespace Go.Proofs.Ytmdmojklagmmiaa
open Go.RowKit
set_option linter.unusedSimpArgs false
set_option linter.unusedVariables false
theorem opF_in {q a b c : Nat} {d : List Nat} (h : inP q a b c) (P : Plc q d) : opF q d a b c = -1 := by
  have h9 := h
  obtain ⟨h1, h2, h3, h4, h5, h6⟩ := h
  unfold opF
  rw [if_neg (by omega), if_neg (by omega), if_neg (by omega), if_pos h9]
theorem opF_good {q m : Nat} {d : List Nat} (P : Plc q d) : GdF d q m (opF q d) := by
  refine ⟨fun a b c e => ?_, fun a b c => ?_, fun a b c hi e t ht => opF_in (P.tin hi ht) P⟩
  · unfold opF at e
    split at e
    · omega
    · split at e
      · omega
      · split at e
        · omega
        · split at e
          · assumption
          · omega
  · unfold opF
    split
    · omega
    · split
      · omega
      · split
        · omega
        · split
          · omega
          · omega
theorem srch_small {q m : Nat} {d : List Nat} {f : Nat → Nat → Nat → Int} (hq : q ≤ 2) (hm : m ≤ 4) : (srch d q m (q * q * q) f).length ≤ 390625 := by
  refine Nat.le_trans (srch_len _ f) ?_
  have h1 : q * q * q ≤ 8 := by
    obtain rfl | rfl | rfl : q = 0 ∨ q = 1 ∨ q = 2 := by omega
    all_goals decide
  exact Nat.le_trans (Nat.pow_le_pow_left (show m + 1 ≤ 5 by omega) _) (Nat.le_trans (Nat.pow_le_pow_right (by omega) h1) (by decide))
theorem LsR.lims {base lim base' lim' n : Nat} {w : World} {v : Value} {X : List (Nat → Nat → Nat → Int)} {A : Nat → Nat × Nat} {Lo Hi : Nat → Nat} (h : LsR base lim w v n X A Lo Hi) (hb : base' ≤ base) (hl : lim' ≤ lim) : LsR base' lim' w v n X A Lo Hi :=
  ⟨⟨h.own.1, h.own.2.imp id (fun ⟨g, cap, cur, e, h1, h2⟩ => ⟨g, cap, cur, e, Nat.le_trans hb h1, h2⟩)⟩, fun i hi => ⟨Nat.le_trans hl (h.cub i hi).1, (h.cub i hi).2⟩, h.dis, h.off⟩
set_option maxRecDepth 100000 in
set_option maxHeartbeats 8000000 in
theorem ringsWithDuals_f (gd n c m q : Nat) (d : List Nat) (w : World) (hr : RowI w 2 gd n (lF d)) (hnq : n = q + 1) (hq : q ≤ 2) (hp : d ∈ per n) (hm : m ≤ 4) :
    Calls Try.prog 72 #[.slice (some ⟨gd, 0, none⟩) n c, .int .i64 (m : Nat)] w fun e w' => ∃ g k A Lo Hi, e = .returned (.slice (some ⟨g, 0, none⟩) (srch d q m (q * q * q) (opF q d)).length k) ∧ LsR w.heap.size w.heap.size w' (.slice (some ⟨g, 0, none⟩) (srch d q m (q * q * q) (opF q d)).length k) n (srch d q m (q * q * q) (opF q d)) A Lo Hi ∧ Below w.heap.size w w' := by
  have HR := Lib.hid hr
  have HNQ := Lib.hid hnq
  have HP := Lib.hid hp
  have hn3 : n ≤ 3 := by omega
  have hgd := RowB.lt hr
  clear hr hnq hp
  obtain ⟨W1, hW1⟩ : ∃ W, W = (((w.alloc (.cells #[.slice (some ⟨gd, 0, none⟩) n c] 26)).alloc (.cells #[.int .i64 (m : Nat)] 2)).alloc (.cells #[] 29)).alloc (.cells #[.slice (some ⟨w.heap.size + 2, 0, none⟩) 0 0] 42) := ⟨_, rfl⟩
  have HB1 := Lib.hid (show Below w.heap.size w W1 by rw [hW1]; exact (((below_alloc w _).alloc (by simp) _).alloc (by simp; omega) _).alloc (by simp; omega) _)
  have HS1 := Lib.hid (show W1.heap.size = w.heap.size + 4 by rw [hW1]; simp)
  have HO := Lib.hid (openRing_f gd n c d W1 (RowB.below HR.out HB1.out (RowB.lt HR.out)) (by omega))
  have HWe := Lib.hid hW1
  have k0 : W1.heap[w.heap.size]? = some (.cells #[.slice (some ⟨gd, 0, none⟩) n c] 26 (0, 0)) := by
    rw [hW1, heap_alloc_old _ _ (by simp; omega), heap_alloc_old _ _ (by simp; omega), heap_alloc_old _ _ (by simp), heap_alloc_new]
  have k1 : W1.heap[w.heap.size + 1]? = some (.cells #[.int .i64 (m : Nat)] 2 (0, 0)) := by
    rw [hW1, heap_alloc_old _ _ (by simp), heap_alloc_old _ _ (by simp)]
    have h9 := heap_alloc_new (w.alloc (.cells #[.slice (some ⟨gd, 0, none⟩) n c] 26)) (.cells #[.int .i64 (m : Nat)] 2)
    simpa using h9
  have k2 : W1.heap[w.heap.size + 2]? = some (.cells #[] 29 (0, 0)) := by
    rw [hW1, heap_alloc_old _ _ (by simp)]
    have h9 := heap_alloc_new ((w.alloc (.cells #[.slice (some ⟨gd, 0, none⟩) n c] 26)).alloc (.cells #[.int .i64 (m : Nat)] 2)) (.cells #[] 29)
    simpa using h9
  have k3 : W1.heap[w.heap.size + 3]? = some (.cells #[.slice (some ⟨w.heap.size + 2, 0, none⟩) 0 0] 42 (0, 0)) := by
    rw [hW1]
    have h9 := heap_alloc_new (((w.alloc (.cells #[.slice (some ⟨gd, 0, none⟩) n c] 26)).alloc (.cells #[.int .i64 (m : Nat)] 2)).alloc (.cells #[] 29)) (.cells #[.slice (some ⟨w.heap.size + 2, 0, none⟩) 0 0] 42)
    simpa using h9
  have HK0 := Lib.hid (And.intro k0 (And.intro k1 (And.intro k2 k3)))
  clear hW1 k0 k1 k2 k3
  go_enter Try.func72, Try.ntmps72
  go_wp2_with fail
  rw [← HWe.out]
  refine HO.out.mono ?_
  rintro e W2 ⟨b, rfl, hc, hb2⟩
  obtain ⟨C, B, CC, G, hcb⟩ := hc
  have HCB := Lib.hid hcb
  have HB2 := Lib.hid hb2
  clear hcb hb2 HO HWe
  go_wp2_with fail
  obtain ⟨W3, hW3⟩ : ∃ W, W = ((W2.alloc (.cells #[.slice (some ⟨b, 0, none⟩) n n] 29)).alloc (.cells #[.func (.func 108) #[] #[.pointer (some ⟨w.heap.size, 0, none⟩), .pointer (some ⟨W2.heap.size, 0, none⟩)]] 127)).alloc (.cells #[.func (.func 110) #[] #[.pointer (some ⟨W2.heap.size, 0, none⟩), .pointer (some ⟨w.heap.size + 1 + 1 + 1, 0, none⟩), .pointer (some ⟨w.heap.size + 1, 0, none⟩), .pointer (some ⟨W2.heap.size + 1, 0, none⟩), .pointer (some ⟨W2.heap.size + 1 + 1, 0, none⟩)]] 1) := ⟨_, rfl⟩
  rw [← hW3]
  have HB3 := Lib.hid (show Below W2.heap.size W2 W3 by rw [hW3]; exact ((below_alloc _ _).alloc (by simp) _).alloc (by simp; omega) _)
  have HS3 := Lib.hid (show W3.heap.size = W2.heap.size + 3 by rw [hW3]; simp)
  have k0 : W3.heap[W2.heap.size]? = some (.cells #[.slice (some ⟨b, 0, none⟩) n n] 29 (0, 0)) := by
    rw [hW3, heap_alloc_old _ _ (by simp; omega), heap_alloc_old _ _ (by simp), heap_alloc_new]
  have k1 : W3.heap[W2.heap.size + 1]? = some (.cells #[.func (.func 108) #[] #[.pointer (some ⟨w.heap.size, 0, none⟩), .pointer (some ⟨W2.heap.size, 0, none⟩)]] 127 (0, 0)) := by
    rw [hW3, heap_alloc_old _ _ (by simp)]
    have h9 := heap_alloc_new (W2.alloc (.cells #[.slice (some ⟨b, 0, none⟩) n n] 29)) (.cells #[.func (.func 108) #[] #[.pointer (some ⟨w.heap.size, 0, none⟩), .pointer (some ⟨W2.heap.size, 0, none⟩)]] 127)
    simpa using h9
  have k2 : W3.heap[W2.heap.size + 1 + 1]? = some (.cells #[.func (.func 110) #[] #[.pointer (some ⟨W2.heap.size, 0, none⟩), .pointer (some ⟨w.heap.size + 1 + 1 + 1, 0, none⟩), .pointer (some ⟨w.heap.size + 1, 0, none⟩), .pointer (some ⟨W2.heap.size + 1, 0, none⟩), .pointer (some ⟨W2.heap.size + 1 + 1, 0, none⟩)]] 1 (0, 0)) := by
    rw [hW3]
    have h9 := heap_alloc_new ((W2.alloc (.cells #[.slice (some ⟨b, 0, none⟩) n n] 29)).alloc (.cells #[.func (.func 108) #[] #[.pointer (some ⟨w.heap.size, 0, none⟩), .pointer (some ⟨W2.heap.size, 0, none⟩)]] 127)) (.cells #[.func (.func 110) #[] #[.pointer (some ⟨W2.heap.size, 0, none⟩), .pointer (some ⟨w.heap.size + 1 + 1 + 1, 0, none⟩), .pointer (some ⟨w.heap.size + 1, 0, none⟩), .pointer (some ⟨W2.heap.size + 1, 0, none⟩), .pointer (some ⟨W2.heap.size + 1 + 1, 0, none⟩)]] 1)
    simpa using h9
  clear hW3
  have s1 := HS1.out
  have s2 := HB2.out.size
  have s3 := HS3.out
  have HB13 := Lib.hid (HB2.out.trans (HB3.out.mono HB2.out.size))
  have HB03 := Lib.hid (HB1.out.trans (HB13.out.mono HB1.out.size))
  have old : ∀ i, i < w.heap.size + 4 → W3.heap[i]? = W1.heap[i]? := fun i hi => HB13.out.block i (by omega)
  obtain ⟨j0, j1, j2, j3⟩ := HK0.out
  rw [← old _ (by omega)] at j0 j1 j2 j3
  have PP := plc_of hq (by rw [← HNQ.out]; exact HP.out : d ∈ per (q + 1))
  have HSR := Lib.hid (show SrW W3.heap.size W1.heap.size W2.heap.size (w.heap.size + 2) w.heap.size W2.heap.size (w.heap.size + 1) (W2.heap.size + 1) (W2.heap.size + 1 + 1) (w.heap.size + 1 + 1 + 1) gd b n c m w.heap.size d C B CC G W3 (.slice (some ⟨w.heap.size + 1 + 1, 0, none⟩) 0 0) [] (opF q d) by
    refine ⟨⟨?_, ?_, ?_, ?_, ?_, ?_⟩, ?_, ?_, ?_, ?_, Nat.le_refl _, ⟨_, _, rfl⟩⟩
    · simp [World.cell?, j0]
    · exact RowB.below HR.out HB03.out (RowB.lt HR.out)
    · simp [World.cell?, k0]
    · simp [World.cell?, j1]
    · simp [World.cell?, k1]
    · simp [World.cell?, k2]
    · have := HCB.out.below HB3.out (Nat.le_refl _)
      rw [show n - 1 = q by have := HNQ.out; omega] at this
      exact this
    · exact ⟨_, j3, fun i hi => by obtain rfl : i = 0 := by omega
                                   rfl⟩
    · refine ⟨fun _ => (0, 0), fun _ => 0, fun _ => 0, ⟨?_, fun i hi => absurd hi (by simp), fun i j _ hj => absurd hj (by simp), fun g _ i hi => absurd hi (by simp)⟩⟩
      exact ⟨rfl, Or.inr ⟨w.heap.size + 2, 0, #[], rfl, by omega, j2, Nat.le_refl _, by simp [maxLen], rfl, rfl⟩⟩
    · intro g hg
      cases hg
      exact Or.inl rfl)
  have HKK := Lib.hid (show SrB W3.heap.size W1.heap.size W2.heap.size (w.heap.size + 2) w.heap.size W2.heap.size (w.heap.size + 1) (W2.heap.size + 1) (W2.heap.size + 1 + 1) (w.heap.size + 1 + 1 + 1) gd by
    refine ⟨fun k hk => ?_, ?_, ?_, ?_⟩
    · rcases hk with rfl | rfl | rfl | rfl | rfl | rfl <;> omega
    · omega
    · omega
    · omega)
  have HCALL := Lib.hid (search_f _ _ _ _ _ _ _ _ _ _ gd b n c m w.heap.size q d C B CC G HKK.out HNQ.out hq PP (fun x hx => ((per_t (by have := HNQ.out; omega) (by omega) HP.out).2.2 x hx).1) hm (by omega) (q * q * q) (opF q d) W3 _ [] (Nat.le_refl _) (fun x y z _ h => absurd h (by omega)) (opF_good PP) (by have := srch_small (d := d) (f := opF q d) hq hm; simp only [List.nil_append]; omega) HSR.out)
  clear k0 k1 k2 j0 j1 j2 j3 old PP s1 s2 s3
  refine HCALL.out.mono ?_
  rintro e w4 ⟨rfl, v', hsw, htr, -⟩
  have HSW := Lib.hid hsw
  have HTR := Lib.hid (show Below w.heap.size w w4 from Trn.below HB03.out htr HB03.out.size (fun k hk hp => by
    have s1 := HS1.out
    rcases hp with hp | hp | hp
    · omega
    · omega
    · simp only [Value.ownBlock, Option.some.injEq] at hp
      omega))
  have ec := RowB.cell HSW.out.cel (show 0 < 1 by omega)
  clear hsw htr HCALL HSR HKK HCB
  obtain ⟨A, Lo, Hi, hl⟩ := HSW.out.lst
  obtain ⟨g, k, hnn⟩ := HSW.out.nn
  rw [hnn] at hl ec
  have HL := Lib.hid hl
  clear hl
  have hs3 : w.heap.size ≤ W3.heap.size := HB03.out.size
  go_wp2_with fail
  go_ret
  exact ⟨g, k, A, Lo, Hi, rfl, by have := HL.out.lims (Nat.le_refl _) hs3; rw [List.nil_append] at this; exact this, HTR.out⟩
end Go.Proofs.Ytmdmojklagmmiaa
/- All small rings: all tables of the program. -/
namespace Go.Proofs.Ytmdmojklagmmiaa
open Go.RowKit
set_option linter.unusedSimpArgs false
set_option linter.unusedVariables false
/-- the tables with some duals -/
def rdL (n m : Nat) (d : List Nat) : List (Nat → Nat → Nat → Int) := srch d (n - 1) m ((n - 1) * (n - 1) * (n - 1)) (opF (n - 1) d)
/-- all tables -/
def allX (n m : Nat) : List (Nat → Nat → Nat → Int) := (per n).flatMap (rdL n m)
theorem rdL_len {n m : Nat} (hn : n ≤ 3) (hm : m ≤ 4) (V : List (List Nat)) : (V.flatMap (rdL n m)).length ≤ V.length * 390625 := by
  induction V with
  | nil => simp
  | cons a V ih =>
    rw [List.flatMap_cons, List.length_append, List.length_cons, Nat.add_mul]
    have : (rdL n m a).length ≤ 390625 := srch_small (by omega) hm
    omega
theorem rings_f (gd n c m : Nat) (d : List Nat) (w : World) (hr : RowI w 2 gd n (lF d)) (h1 : 1 ≤ n) (hn : n ≤ 3) (hp : d ∈ per n) (hm : m ≤ 4) :
    Calls Try.prog 72 #[.slice (some ⟨gd, 0, none⟩) n c, .int .i64 (m : Nat)] w fun e w' => ∃ g k A Lo Hi, e = .returned (.slice (some ⟨g, 0, none⟩) (rdL n m d).length k) ∧ LsR w.heap.size w.heap.size w' (.slice (some ⟨g, 0, none⟩) (rdL n m d).length k) n (rdL n m d) A Lo Hi ∧ Below w.heap.size w w' :=
  ringsWithDuals_f gd n c m (n - 1) d w hr (by omega) (by omega) hp hm
def SrtZ (n : Nat) (Z : List (Nat → Nat → Nat → Int)) : Prop := ∀ i j, i < j → j < Z.length → ¬ ltT n (Z.getD j zF) (Z.getD i zF)
/-- what sorting a list of rings does -/
def SortOK (n : Nat) : Prop := ∀ (base lim g k : Nat) (u : World) (X : List (Nat → Nat → Nat → Int)) (A : Nat → Nat × Nat) (Lo Hi : Nat → Nat), LsR base lim u (.slice (some ⟨g, 0, none⟩) X.length k) n X A Lo Hi → X.length ≤ 1000000000 →
  Calls Try.prog 74 #[.slice (some ⟨g, 0, none⟩) X.length k, .func (.func 47) #[] #[]] u fun e w' => e = .returned (.tuple #[]) ∧ ∃ Z A' Lo' Hi', Z.Perm X ∧ SrtZ n Z ∧ LsR base lim w' (.slice (some ⟨g, 0, none⟩) X.length k) n Z A' Lo' Hi' ∧ Trn (fun q => q = g) u w'
/-- the state of the list of all tables -/
def THead (n m lim : Nat) (w : World) (g : Nat) (v : Value) (wr : World) (mu : Nat) : Prop :=
  ∃ (cur : List Nat) (V : List (List Nat)) (X : List (Nat → Nat → Nat → Int)) (A : Nat → Nat × Nat) (Lo Hi : Nat → Nat) (g7 k7 : Nat), v = .slice (some ⟨g7, 0, none⟩) X.length k7 ∧ V ++ (orbit mu cur).map (0 :: ·) = per n ∧ V.length + mu = 720 ∧ X = (V ++ [0 :: cur]).flatMap (rdL n m) ∧ LsR w.heap.size lim wr v n X A Lo Hi ∧ RowI wr 2 g n (lF (0 :: cur)) ∧ cur.length + 1 = n ∧ Below w.heap.size w wr ∧ lim ≤ wr.heap.size
set_option maxRecDepth 100000 in
set_option maxHeartbeats 8000000 in
theorem ringTables_of (n m : Nat) (w : World) (h1 : 1 ≤ n) (hn : n ≤ 3) (hm : m ≤ 4) (hS : SortOK n) :
    Calls Try.prog 44 #[.int .i64 (n : Nat), .int .i64 (m : Nat)] w fun e w' => ∃ g k Z A Lo Hi, e = .returned (.slice (some ⟨g, 0, none⟩) Z.length k) ∧ Z.Perm (allX n m) ∧ SrtZ n Z ∧ LsR w.heap.size w.heap.size w' (.slice (some ⟨g, 0, none⟩) Z.length k) n Z A Lo Hi ∧ Below w.heap.size w w' := by
  have HSO := Lib.hid hS
  clear hS
  have HA1 := Lib.hid (Acc.start w 2 (fun j => (j : Int)))
  go_enter Try.func44, Try.ntmps44
  go_wp2_with fail
  go_loopw [5, 10] (fun v x wr => ∃ (q g cg : Nat), q ≤ n ∧ x = .int .i64 q ∧ v = .slice (some ⟨g, 0, none⟩) q cg ∧ Acc w wr 2 (.slice (some ⟨g, 0, none⟩) q cg) q (fun j => (j : Int))) (fun _ x _ => n - (intOf x).toNat)
  case atStart => exact ⟨0, _, _, by omega, rfl, rfl, HA1.out⟩
  case round =>
    clear HA1
    obtain ⟨q, g, cg, hq, rfl, rfl, hacc⟩ := hrel
    have HA := Lib.hid hacc
    clear hacc
    by_cases hqn : q < n
    · have hsz := HA.out.bel.size
      go_wp2_with (at_builtin; refine push64 _ rfl _ _ rfl w.heap.size _ q _ rfl (HA.out.own.alloc _) ⟨_, 0, none⟩ (q : Int) rfl (cell_one_new _ _ _) (by omega) (by simp; omega) ?_; intro g3 c3 w3 hown3 hgr3)
      have HP := Lib.hid (HA.out.push _ rfl hown3 hgr3)
      clear hown3 hgr3
      go_roundw
      case rel => exact ⟨q + 1, g3, c3, by omega, by go_num, rfl, HP.out⟩
      case measure => simp [intOf]; omega
    · obtain rfl : q = n := by omega
      obtain ⟨d1, d2, d3, d4⟩ := HA.out.done
      have hid : ∀ j, j < q → (j : Int) = lF (0 :: List.range' 1 (q - 1)) j := fun j hj => by
        unfold lF
        cases j with
        | zero => rfl
        | succ j => simp [List.getD, show j < q - 1 by omega]; omega
      have HR := Lib.hid (show RowI wr 2 g q (lF (0 :: List.range' 1 (q - 1))) from RowI.congr d4 hid)
      have HBl := Lib.hid HA.out.bel
      have HOr := Lib.hid (show [] ++ (orbit 720 (List.range' 1 (q - 1))).map (0 :: ·) = per q by rw [List.nil_append]; exact orbit_per q h1 (by omega))
      have hmem : (0 :: List.range' 1 (q - 1)) ∈ per q := by
        rw [← HOr.out]
        obtain ⟨r, hr⟩ := orbit_head 720 (List.range' 1 (q - 1))
        rw [hr]; simp
      have HRD := Lib.hid (rings_f g q cg m (0 :: List.range' 1 (q - 1)) wr HR.out h1 hn hmem hm)
      have hgw : w.heap.size ≤ g := d1
      clear d1 d4 hid hmem HA
      obtain ⟨wl, hwl⟩ : ∃ x, x = wr := ⟨_, rfl⟩
      subst hwl
      go_wp2_with fail
      refine HRD.out.mono ?_
      rintro e w2 ⟨g7, k7, A, Lo, Hi, rfl, hl, hb2⟩
      have HT0 := Lib.hid (show THead q m wl.heap.size w g (.slice (some ⟨g7, 0, none⟩) (rdL q m (0 :: List.range' 1 (q - 1))).length k7) w2 720 from
        ⟨List.range' 1 (q - 1), [], rdL q m (0 :: List.range' 1 (q - 1)), A, Lo, Hi, g7, k7, rfl, HOr.out, rfl, by simp, hl.lims HBl.out.size (Nat.le_refl _), RowB.below HR.out hb2 (RowB.lt HR.out), by simp; omega, HBl.out.trans (hb2.mono HBl.out.size), hb2.size⟩)
      have HGL := Lib.hid (RowB.lt HR.out)
      obtain ⟨n0, hn0⟩ : ∃ x, x = (rdL q m (0 :: List.range' 1 (q - 1))).length := ⟨_, rfl⟩
      rw [← hn0] at HT0
      rw [← hn0]
      clear hl hb2 HRD HOr HR HBl hn0
      go_wp2_with fail
      go_loopw [7] (fun v wr => ∃ mu, THead q m wl.heap.size w g v wr mu) (fun v wr => lst (fun mu => THead q m wl.heap.size w g v wr mu))
      case atStart => exact ⟨720, HT0.out⟩
      case round =>
        clear HT0
        have hhd := lst_has hrel
        generalize hmu : lst (fun mu => THead q m wl.heap.size w g _ wr mu) = mu at hhd
        obtain ⟨cur, V, X, A, Lo, Hi, g7, k7, rfl, hV, hlen, hX, hl, hrow, hcl, hbel, hlim⟩ := hhd
        have HMU := Lib.hid hmu
        have HV := Lib.hid hV
        have HX := Lib.hid hX
        have HL := Lib.hid hl
        have HR := Lib.hid hrow
        have HB := Lib.hid hbel
        have HLI := Lib.hid hlim
        clear hmu hV hX hl hrow hbel hlim
        have hgc : 1 ≤ cg := by omega
        go_wp2_with fail
        all_goals try (rename cg = 1 => hc1; subst hc1)
        all_goals
          refine (adv_f g q (q - 1) _ cur _ wr HR.out hcl rfl (fun h => by first | rfl | omega) (by omega) (by omega)).mono ?_
          rintro e w3 ⟨rfl, ho3, hr3⟩
          have HT3 := Lib.hid (show Trn (fun t => t = g) wr w3 from ⟨ho3.os, ho3.tape, ho3.output, Nat.le_of_eq ho3.size.symm, fun t _ ht => ho3.block t ht⟩)
          have HL3 := Lib.hid (HL.out.trn HT3.out (fun t ht e => by
            have hne := RowB.ne (RowB_of_own HL.out.own) (show RowB wr 2 g q _ from HR.out) (by decide)
            cases ht
            exact hne e) (fun t e => by rw [e]; exact HGL.out))
          have HB3 := Lib.hid (show Below w.heap.size w w3 from HT3.out.below HB.out HB.out.size (fun t ht e => by omega))
          have HR3 := Lib.hid hr3
          have hs3 : w3.heap.size = wr.heap.size := ho3.size
          clear ho3 hr3 HL HR HB
          cases hnx : nextP cur
          · rw [hnx] at HR3
            have HXA := Lib.hid (show X = allX q m by
              rw [HX.out]; unfold allX
              rw [← HV.out, orbit_none hnx]; rfl)
            have HSC := Lib.hid (HSO.out _ _ _ _ w3 X A Lo Hi HL3.out (by
              have h8 := rdL_len hn hm (V ++ [0 :: cur])
              rw [← HX.out, List.length_append] at h8
              simp only [List.length_singleton] at h8
              have h9 := per_len q h1 (by omega)
              rw [← HV.out, orbit_none hnx] at h9
              simp at h9
              omega))
            go_wp2_with fail
            refine HSC.out.mono ?_
            rintro e w4 ⟨rfl, Z, A', Lo', Hi', hpm, hsz, hl4, ht4⟩
            have HF := Lib.hid (show Z.Perm (allX q m) by rw [← HXA.out]; exact hpm)
            have HSZ := Lib.hid hsz
            have HZl := Lib.hid hpm.length_eq
            have HL4 := Lib.hid (show LsR w.heap.size w.heap.size w4 (.slice (some ⟨g7, 0, none⟩) Z.length k7) q Z A' Lo' Hi' by rw [HZl.out]; exact hl4.lims (Nat.le_refl _) (by have := HB3.out.size; have := HLI.out; have := HT3.out.size; have := HGL.out; omega))
            have HB4 := Lib.hid (show Below w.heap.size w w4 from ht4.below HB3.out HB3.out.size (fun t ht e => by
              rcases HL3.out.own.2 with ⟨h, _⟩ | ⟨g', c', cur', h, hb', _⟩
              · cases h
              · cases h; omega))
            clear hpm hsz hl4 ht4 HSC
            go_wp2_with fail
            go_ret
            exact ⟨g7, k7, Z, A', Lo', Hi', by rw [HZl.out]; rfl, HF.out, HSZ.out, HL4.out, HB4.out⟩
          · rename_i nx
            rw [hnx] at HR3
            have HR33 := Lib.hid (show RowI w3 2 g q (lF (0 :: nx)) from HR3.out)
            obtain ⟨mu', rfl⟩ : ∃ mu', mu = mu' + 1 := by
              cases mu with
              | zero =>
                exfalso
                have h1 := per_len q h1 (by omega)
                obtain ⟨r, hr⟩ := orbit_head 0 cur
                rw [← HV.out, hr] at h1
                simp at h1; omega
              | succ mu => exact ⟨mu, rfl⟩
            have HV2 := Lib.hid (show (V ++ [0 :: cur]) ++ (orbit mu' nx).map (0 :: ·) = per q by
              rw [← HV.out, orbit_some hnx]; simp)
            have HNl := Lib.hid (nextP_at hnx).2.1
            have HRD := Lib.hid (fun cc => rings_f g q cc m (0 :: nx) w3 HR33.out h1 hn (by
              rw [← HV2.out]
              obtain ⟨r, hr⟩ := orbit_head mu' nx
              rw [hr]; simp) hm)
            go_wp2_with fail
            refine (HRD.out _).mono ?_
            rintro e w4 ⟨g9, k9, A9, Lo9, Hi9, rfl, hl9, hb9⟩
            have HL4 := Lib.hid (HL3.out.trn (Trn.of_below (P := fun _ => False) hb9) (fun _ _ h => h) (fun _ h => h.elim))
            have HL9 := Lib.hid hl9
            have HB9 := Lib.hid hb9
            have HB4 := Lib.hid (HB3.out.trans (hb9.mono HB3.out.size))
            have HXl := Lib.hid (show X.length ≤ 1000000000 ∧ (rdL q m (0 :: nx)).length ≤ 1000000000 by
              have h8 := rdL_len hn hm (V ++ [0 :: cur])
              rw [← HX.out, List.length_append] at h8
              simp only [List.length_singleton] at h8
              have h7 := rdL_len hn hm [0 :: nx]
              simp at h7
              have h9 := per_len q h1 (by omega)
              rw [← HV2.out] at h9
              simp at h9
              omega)
            obtain ⟨hx1, hx2⟩ := HXl.out
            have hw4 : w.heap.size ≤ w4.heap.size := HB4.out.size
            clear hl9 hb9 HRD
            go_wp2_with (at_builtin; refine pushRings _ rfl _ _ rfl w.heap.size (.slice (some ⟨g7, 0, none⟩) X.length k7) X.length _ rfl HL4.out.own g9 (rdL q m (0 :: nx)).length k9 q A9 w3.heap.size rfl HL9.out.own hx1 hx2 hw4 (fun h => by cases h) ?_; intro gN cN wN hownN hgrN hatN)
            have HLN := Lib.hid (HL3.out.cat HB9.out HL9.out (Nat.le_refl _) (by have := HLI.out; omega) hownN hgrN (hatN.imp id id))
            have HTN := Lib.hid (show Trn (fun t => t = g7) w4 wN from Trn.of_grown hgrN fun t ht => by simp only [Value.ownBlock, Option.some.injEq] at ht; exact ht.symm)
            have HBN := Lib.hid (show Below w.heap.size w wN from HTN.out.below HB4.out HB4.out.size (fun t ht e => by
              rcases HL3.out.own.2 with ⟨h, _⟩ | ⟨g', c', cur', h, hb', _⟩
              · cases h
              · cases h; omega))
            have HR4 := Lib.hid (show RowI w4 2 g q (lF (0 :: nx)) from RowB.below HR33.out HB9.out (RowB.lt HR33.out))
            have HRN := Lib.hid (show RowI wN 2 g q (lF (0 :: nx)) from RowB.trn HR4.out HTN.out (fun e => by
              have hne := RowB.ne (RowB_of_own HL4.out.own) (show RowB w4 2 g q _ from HR4.out) (by decide)
              exact hne e.symm))
            have HFN := Lib.hid (show THead q m wl.heap.size w g (.slice (some ⟨gN, 0, none⟩) (X.length + (rdL q m (0 :: nx)).length : Nat) cN) wN mu' from
              ⟨nx, V ++ [0 :: cur], X ++ rdL q m (0 :: nx), _, _, _, gN, cN, by rw [List.length_append], HV2.out, by simp; omega, by rw [List.flatMap_append, ← HX.out]; simp, HLN.out, HRN.out, by have := HNl.out; omega, HBN.out, by have := HLI.out; have := HB9.out.size; have := hgrN.size; omega⟩)
            clear hownN hgrN hatN
            go_roundw
            case rel => exact ⟨mu', HFN.out⟩
            case measure =>
              exact Nat.lt_of_le_of_lt (lst_le (p := fun mu => THead q m wl.heap.size w g (.slice (some ⟨gN, 0, none⟩) (X.length + (rdL q m (0 :: nx)).length : Nat) cN) wN mu) HFN.out) (Nat.lt_of_lt_of_eq (Nat.lt_succ_self mu') HMU.out.symm)
end Go.Proofs.Ytmdmojklagmmiaa
