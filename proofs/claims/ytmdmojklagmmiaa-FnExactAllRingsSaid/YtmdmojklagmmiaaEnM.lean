/- All small rings: the two searches find the same tables. -/
import Derived.Test.YtmdmojklagmmiaaDmM
import Derived.Test.YtmdmojklagmmiaaPac
namespace Go.Proofs.Ytmdmojklagmmiaa
/-- a place of labels other than 0 -/
def inP (q a b c : Nat) : Prop := 1 ≤ a ∧ a ≤ q ∧ 1 ≤ b ∧ b ≤ q ∧ 1 ≤ c ∧ c ≤ q
instance (q a b c : Nat) : Decidable (inP q a b c) := inferInstanceAs (Decidable (_ ∧ _))
def pN (q a b c : Nat) : Nat := ((a - 1) * q + (b - 1)) * q + (c - 1)
def pI (q p : Nat) : Nat := p / (q * q) + 1
def pJ (q p : Nat) : Nat := p / q % q + 1
def pK (q p : Nat) : Nat := p % q + 1
/-- the places that have the same number in every ring with the duals d -/
def trn (d : List Nat) (i j k : Nat) : List (Nat × Nat × Nat) :=
  [(i, j, k), (d.getD i 0, k, j), (k, d.getD j 0, i), (j, d.getD k 0, d.getD i 0), (d.getD k 0, i, d.getD j 0), (d.getD j 0, d.getD i 0, d.getD k 0)]
def stC (f : Nat → Nat → Nat → Int) (i j k : Nat) (v : Int) : Nat → Nat → Nat → Int := fun a b c => if a = i ∧ b = j ∧ c = k then v else f a b c
def puC (d : List Nat) (f : Nat → Nat → Nat → Int) (i j k : Nat) (v : Int) : Nat → Nat → Nat → Int := fun a b c => if (a, b, c) ∈ trn d i j k then v else f a b c
/-- whether the numbers up to a place fit -/
def fitB (n : Nat) (f : Nat → Nat → Nat → Int) (i j k : Nat) : Bool := decide (i < dn n f i) || (decide (dn n f i = i) && decide (j < k)) || (f i j k == f (dn n f i) k j)
/-- the program's search, r places left -/
def srch (d : List Nat) (q m : Nat) : Nat → (Nat → Nat → Nat → Int) → List (Nat → Nat → Nat → Int)
  | 0, f => if flt (q + 1) f = [] then [f] else []
  | r + 1, f =>
    let p := q * q * q - (r + 1)
    if f (pI q p) (pJ q p) (pK q p) = -1 then (List.range (m + 1)).flatMap fun (v : Nat) => srch d q m r (puC d f (pI q p) (pJ q p) (pK q p) v) else srch d q m r f
/-- the specification's -/
def gro (q m : Nat) : Nat → (Nat → Nat → Nat → Int) → List (Nat → Nat → Nat → Int)
  | 0, f => if flt (q + 1) f = [] then [f] else []
  | r + 1, f =>
    let p := q * q * q - (r + 1)
    (List.range (m + 1)).flatMap fun (v : Nat) => if fitB (q + 1) (stC f (pI q p) (pJ q p) (pK q p) v) (pI q p) (pJ q p) (pK q p) = true then gro q m r (stC f (pI q p) (pJ q p) (pK q p) v) else []
/-- all that is asked of places: a finite look -/
def plcB (q : Nat) (d : List Nat) : Bool :=
  (List.range 3).all fun a => (List.range 3).all fun b => (List.range 3).all fun c =>
    !decide (inP q a b c) || (decide (pN q a b c < q * q * q) && pI q (pN q a b c) == a && pJ q (pN q a b c) == b && pK q (pN q a b c) == c
      && (decide (a < d.getD a 0) || (decide (d.getD a 0 = a) && decide (b < c)) || ((d.getD a 0, c, b) == (a, b, c)) || decide (pN q (d.getD a 0) c b < pN q a b c))
      && decide (inP q (d.getD a 0) c b)
      && (trn d a b c).all fun t => decide (inP q t.1 t.2.1 t.2.2) && (trn d t.1 t.2.1 t.2.2).contains (a, b, c) && (trn d t.1 t.2.1 t.2.2).all fun u => (trn d a b c).contains u)
def plcA (q : Nat) : Bool := (List.range (q * q * q)).all fun p => decide (inP q (pI q p) (pJ q p) (pK q p)) && pN q (pI q p) (pJ q p) (pK q p) == p
theorem plc_ok : ∀ q, q ≤ 2 → plcA q = true ∧ ∀ d ∈ per (q + 1), plcB q d = true := by
  intro q hq
  obtain rfl | rfl | rfl : q = 0 ∨ q = 1 ∨ q = 2 := by omega
  all_goals decide +kernel
structure Plc (q : Nat) (d : List Nat) : Prop where
  num : ∀ {a b c}, inP q a b c → pN q a b c < q * q * q ∧ pI q (pN q a b c) = a ∧ pJ q (pN q a b c) = b ∧ pK q (pN q a b c) = c
  at' : ∀ {p}, p < q * q * q → inP q (pI q p) (pJ q p) (pK q p) ∧ pN q (pI q p) (pJ q p) (pK q p) = p
  ord : ∀ {a b c}, inP q a b c → a < d.getD a 0 ∨ (d.getD a 0 = a ∧ b < c) ∨ (d.getD a 0 = a ∧ c = b) ∨ pN q (d.getD a 0) c b < pN q a b c
  tin : ∀ {a b c} {t : Nat × Nat × Nat}, inP q a b c → t ∈ trn d a b c → inP q t.1 t.2.1 t.2.2
  sym : ∀ {a b c x y z}, inP q a b c → (x, y, z) ∈ trn d a b c → (a, b, c) ∈ trn d x y z
  tr : ∀ {a b c x y z} {u : Nat × Nat × Nat}, inP q a b c → (x, y, z) ∈ trn d a b c → u ∈ trn d x y z → u ∈ trn d a b c
theorem plc_of {q : Nat} {d : List Nat} (hq : q ≤ 2) (hd : d ∈ per (q + 1)) : Plc q d := by
  obtain ⟨hA, hB⟩ := plc_ok q hq
  have hB := hB d hd
  have B : ∀ {a b c}, inP q a b c → (decide (pN q a b c < q * q * q) && pI q (pN q a b c) == a && pJ q (pN q a b c) == b && pK q (pN q a b c) == c
      && (decide (a < d.getD a 0) || (decide (d.getD a 0 = a) && decide (b < c)) || ((d.getD a 0, c, b) == (a, b, c)) || decide (pN q (d.getD a 0) c b < pN q a b c))
      && decide (inP q (d.getD a 0) c b)
      && (trn d a b c).all fun t => decide (inP q t.1 t.2.1 t.2.2) && (trn d t.1 t.2.1 t.2.2).contains (a, b, c) && (trn d t.1 t.2.1 t.2.2).all fun u => (trn d a b c).contains u) = true := by
    intro a b c h
    have h' := h
    obtain ⟨_, h1, _, h2, _, h3⟩ := h'
    have := List.all_eq_true.1 (List.all_eq_true.1 (List.all_eq_true.1 hB a (by simp; omega)) b (by simp; omega)) c (by simp; omega)
    rw [decide_eq_true h] at this
    simpa only [Bool.not_true, Bool.false_or] using this
  have T : ∀ {a b c} {t : Nat × Nat × Nat}, inP q a b c → t ∈ trn d a b c → inP q t.1 t.2.1 t.2.2 ∧ (a, b, c) ∈ trn d t.1 t.2.1 t.2.2 ∧ ∀ u ∈ trn d t.1 t.2.1 t.2.2, u ∈ trn d a b c := by
    intro a b c t h ht
    have h1 := B h
    rw [Bool.and_eq_true] at h1
    have h2 := List.all_eq_true.1 h1.2 t ht
    rw [Bool.and_eq_true, Bool.and_eq_true] at h2
    refine ⟨of_decide_eq_true h2.1.1, by simpa using h2.1.2, fun u hu => ?_⟩
    simpa using List.all_eq_true.1 h2.2 u hu
  refine ⟨fun {a b c} h => ?_, fun {p} hp => ?_, fun {a b c} h => ?_, fun h ht => (T h ht).1, fun h ht => (T h ht).2.1, fun h ht hu => (T h ht).2.2 _ hu⟩
  · have h1 := B h
    simp only [Bool.and_eq_true, beq_iff_eq, decide_eq_true_eq] at h1
    obtain ⟨⟨⟨⟨⟨⟨h1, h2⟩, h3⟩, h4⟩, _⟩, _⟩, _⟩ := h1
    exact ⟨h1, h2, h3, h4⟩
  · have := List.all_eq_true.1 hA p (by simpa using hp)
    simpa using this
  · have h1 := B h
    simp only [Bool.and_eq_true, Bool.or_eq_true, beq_iff_eq, decide_eq_true_eq, Prod.mk.injEq] at h1
    obtain ⟨⟨⟨_, h5⟩, _⟩, _⟩ := h1
    rcases h5 with ((h5 | h5) | h5) | h5
    · exact Or.inl h5
    · exact Or.inr (Or.inl h5)
    · exact Or.inr (Or.inr (Or.inl ⟨h5.1, h5.2.1⟩))
    · exact Or.inr (Or.inr (Or.inr h5))
/-- the numbers that the duals tell -/
def DuB (d : List Nat) (n : Nat) (g : Nat → Nat → Nat → Int) : Prop := ∀ i, i < n → dualOf n g i = ((d.getD i 0 : Nat) : Int)
theorem DuB.dn {d : List Nat} {n : Nat} {g : Nat → Nat → Nat → Int} (h : DuB d n g) {i : Nat} (hi : i < n) : dn n g i = d.getD i 0 := by
  unfold Go.Proofs.Ytmdmojklagmmiaa.dn; rw [h i hi]; rfl
theorem isDual_cong {n : Nat} {f g : Nat → Nat → Nat → Int} {i : Nat} (e : ∀ j, f i j 0 = g i j 0) (j : Nat) : IsDual n f i j ↔ IsDual n g i j := by
  unfold IsDual; rw [e j]; constructor <;> exact fun ⟨a, b⟩ => ⟨a, fun k hk hne => by first | rw [← e k]; exact b k hk hne | rw [e k]; exact b k hk hne⟩
theorem dualOf_cong {n : Nat} {f g : Nat → Nat → Nat → Int} {i : Nat} (e : ∀ j, f i j 0 = g i j 0) : dualOf n f i = dualOf n g i := by
  have : (fun j => decide (IsDual n f i j)) = fun j => decide (IsDual n g i j) := by
    funext j; exact decide_eq_decide.2 (isDual_cong e j)
  unfold dualOf; rw [this]
theorem DuB.cong {d : List Nat} {n : Nat} {f g : Nat → Nat → Nat → Int} (h : DuB d n f) (e : ∀ i j, f i j 0 = g i j 0) : DuB d n g := fun i hi => by
  rw [← dualOf_cong (e i)]; exact h i hi
theorem DuB.st {d : List Nat} {n q p : Nat} {g : Nat → Nat → Nat → Int} (h : DuB d n g) (v : Int) : DuB d n (stC g (pI q p) (pJ q p) (pK q p) v) :=
  h.cong fun i j => by unfold stC pK; rw [if_neg (by omega)]
/-- what a ring has at places that are turned -/
theorem flt_trn {d : List Nat} {q : Nat} {h : Nat → Nat → Nat → Int} (hf : flt (q + 1) h = []) (hd : DuB d (q + 1) h) (P : Plc q d) {a b c : Nat} (hp : inP q a b c) {t : Nat × Nat × Nat} (ht : t ∈ trn d a b c) : h t.1 t.2.1 t.2.2 = h a b c := by
  have T : ∀ i j k, inP q i j k → h i j k = h (d.getD i 0) k j ∧ h i j k = h k (d.getD j 0) i := fun i j k hi => by
    unfold flt at hf
    split at hf
    case isFalse h => exact absurd hf h
    split at hf
    case isFalse h => exact absurd hf h
    split at hf
    case isFalse h => exact absurd hf h
    rename_i ht
    obtain ⟨_, _, _, _, _, _⟩ := hi
    have := fltT_t ht i (by omega) j (by omega) k (by omega)
    simp only [tb, Bool.or_eq_false_iff, bne_eq_false_iff_eq] at this
    rw [hd.dn (by omega), hd.dn (by omega)] at this
    exact this
  have e1 : inP q (d.getD a 0) c b := P.tin (t := (d.getD a 0, c, b)) hp (by simp [trn])
  have e2 : inP q c (d.getD b 0) a := P.tin (t := (c, d.getD b 0, a)) hp (by simp [trn])
  have e3 : inP q b (d.getD c 0) (d.getD a 0) := P.tin (t := (b, d.getD c 0, d.getD a 0)) hp (by simp [trn])
  simp only [trn, List.mem_cons, List.not_mem_nil, or_false] at ht
  rcases ht with rfl | rfl | rfl | rfl | rfl | rfl
  · rfl
  · exact (T a b c hp).1.symm
  · exact (T a b c hp).2.symm
  · show h b (d.getD c 0) (d.getD a 0) = _
    rw [← (T _ _ _ e1).2]; exact (T a b c hp).1.symm
  · show h (d.getD c 0) a (d.getD b 0) = _
    rw [← (T _ _ _ e2).1]; exact (T a b c hp).2.symm
  · show h (d.getD b 0) (d.getD a 0) (d.getD c 0) = _
    rw [← (T _ _ _ e3).1, ← (T _ _ _ e1).2]; exact (T a b c hp).1.symm
theorem flat_congr {α β : Type} {L : List α} {f g : α → List β} (h : ∀ a ∈ L, f a = g a) : L.flatMap f = L.flatMap g := by
  induction L with
  | nil => rfl
  | cons a L ih => simp only [List.flatMap_cons]; rw [h a (by simp), ih (fun b hb => h b (by simp [hb]))]
theorem range_flat {β : Type} (L : List β) (u : Nat) : ∀ n, u < n → (List.range n).flatMap (fun v => if v = u then L else []) = L := by
  intro n
  induction n with
  | zero => intro h; omega
  | succ n ih =>
    intro h
    rw [List.range_succ, List.flatMap_append]
    by_cases e : u < n
    · rw [ih e]; simp; intro h2; omega
    · obtain rfl : u = n := by omega
      have : (List.range u).flatMap (fun v => if v = u then L else []) = [] := by
        rw [List.flatMap_eq_nil_iff]; intro x hx; have := List.mem_range.1 hx; rw [if_neg (by omega)]
      rw [this]; simp
/-- what the specification's search finds has no fault, and the numbers that were there -/
theorem gro_mem {q m : Nat} {d : List Nat} (P : Plc q d) : ∀ (r : Nat) (g h : Nat → Nat → Nat → Int), r ≤ q * q * q → h ∈ gro q m r g → flt (q + 1) h = [] ∧ ∀ a b c, (inP q a b c → pN q a b c < q * q * q - r) → h a b c = g a b c
  | 0, g, h, _, hm => by
    simp only [gro] at hm
    split at hm
    · rename_i hf
      rw [List.mem_singleton] at hm
      subst hm
      exact ⟨hf, fun _ _ _ _ => rfl⟩
    · cases hm
  | r + 1, g, h, hr, hm => by
    simp only [gro, List.mem_flatMap] at hm
    obtain ⟨v, _, hm⟩ := hm
    split at hm
    · obtain ⟨h1, h2⟩ := gro_mem P r _ h (by omega) hm
      refine ⟨h1, fun a b c hp => ?_⟩
      rw [h2 a b c (fun hi => by have := hp hi; omega)]
      unfold stC
      rw [if_neg]
      rintro ⟨rfl, rfl, rfl⟩
      obtain ⟨ha, hb⟩ := P.at' (p := q * q * q - (r + 1)) (by omega)
      have := hp ha
      omega
    · cases hm
/-- the state of both searches at a place -/
structure Inv (d : List Nat) (q m p : Nat) (f g : Nat → Nat → Nat → Int) : Prop where
  out : ∀ a b c, ¬ inP q a b c → f a b c = g a b c
  got : ∀ a b c, inP q a b c → pN q a b c < p → (0 ≤ g a b c ∧ g a b c ≤ m) ∧ ∀ t ∈ trn d a b c, f t.1 t.2.1 t.2.2 = g a b c
  opn : ∀ a b c, inP q a b c → f a b c = -1 ∨ ∃ x y z, inP q x y z ∧ pN q x y z < p ∧ (a, b, c) ∈ trn d x y z
theorem self_trn (d : List Nat) (a b c : Nat) : (a, b, c) ∈ trn d a b c := by simp [trn]
theorem pN_inj {q : Nat} {d : List Nat} (P : Plc q d) {a b c x y z : Nat} (h : inP q a b c) (h' : inP q x y z) (e : pN q a b c = pN q x y z) : a = x ∧ b = y ∧ c = z := by
  obtain ⟨_, h1, h2, h3⟩ := P.num h
  obtain ⟨_, k1, k2, k3⟩ := P.num h'
  rw [e] at h1 h2 h3
  exact ⟨h1.symm.trans k1, h2.symm.trans k2, h3.symm.trans k3⟩
theorem srch_gro {q m : Nat} {d : List Nat} (P : Plc q d) : ∀ (r : Nat) (f g : Nat → Nat → Nat → Int), r ≤ q * q * q → Inv d q m (q * q * q - r) f g → DuB d (q + 1) g → srch d q m r f = gro q m r g
  | 0, f, g, _, I, _ => by
    have : f = g := by
      funext a b c
      by_cases h : inP q a b c
      · exact (I.got a b c h (P.num h).1).2 (a, b, c) (self_trn d a b c)
      · exact I.out a b c h
    rw [this]; rfl
  | r + 1, f, g, hr, I, D => by
    simp only [srch, gro]
    obtain ⟨p, hp⟩ : ∃ p, p = q * q * q - (r + 1) := ⟨_, rfl⟩
    rw [← hp]
    rw [← hp] at I
    have hp1 : q * q * q - r = p + 1 := by omega
    obtain ⟨hin, hnum⟩ := P.at' (p := p) (by omega)
    obtain ⟨i, hi⟩ : ∃ i, i = pI q p := ⟨_, rfl⟩
    obtain ⟨j, hj⟩ : ∃ i, i = pJ q p := ⟨_, rfl⟩
    obtain ⟨k, hk⟩ : ∃ i, i = pK q p := ⟨_, rfl⟩
    have DS : ∀ v, DuB d (q + 1) (stC g i j k v) := fun v => by rw [hi, hj, hk]; exact D.st v
    rw [← hi, ← hj, ← hk] at hin hnum ⊢
    have hdn : ∀ v, dn (q + 1) (stC g i j k v) i = d.getD i 0 := fun v => (DS v).dn (by obtain ⟨_, _, _⟩ := hin; omega)
    by_cases ho : f i j k = -1
    · rw [if_pos ho]
      have hno : ∀ a b c, inP q a b c → pN q a b c < p → (i, j, k) ∉ trn d a b c := fun a b c h hlt hm => by
        obtain ⟨h1, h2⟩ := I.got a b c h hlt
        have := h2 _ hm
        simp only at this; omega
      have hdisj : ∀ a b c, inP q a b c → pN q a b c < p → ∀ t ∈ trn d a b c, t ∉ trn d i j k := fun a b c h hlt t ht ht2 => by
        obtain ⟨x, y, z⟩ := t
        exact hno a b c h hlt (P.tr h ht (P.sym hin ht2))
      refine flat_congr fun v hv => ?_
      have hv : v ≤ m := by have := List.mem_range.1 hv; omega
      have hfit : fitB (q + 1) (stC g i j k v) i j k = true := by
        unfold fitB
        rw [hdn]
        rcases P.ord hin with h | h | h | h
        · simp only [decide_eq_true h, Bool.true_or]
        · simp only [decide_eq_true h.1, decide_eq_true h.2, Bool.and_self, Bool.or_true, Bool.true_or]
        · rw [h.1, h.2]; simp
        · exfalso
          refine hno _ _ _ (P.tin (t := (d.getD i 0, k, j)) hin (by simp [trn])) (by rw [← hnum]; exact h) ?_
          exact P.sym hin (by simp [trn])
      rw [if_pos hfit]
      refine srch_gro P r _ _ (by omega) ?_ (DS v)
      rw [hp1]
      refine ⟨fun a b c h => ?_, fun a b c h hlt => ?_, fun a b c h => ?_⟩
      · unfold puC stC
        rw [if_neg (fun hm => h (P.tin (t := (a, b, c)) hin hm)), if_neg (fun e => h (by rw [e.1, e.2.1, e.2.2]; exact hin))]
        exact I.out a b c h
      · by_cases e : pN q a b c = p
        · obtain ⟨rfl, rfl, rfl⟩ := pN_inj P h hin (e.trans hnum.symm)
          have : stC g a b c v a b c = v := by unfold stC; rw [if_pos ⟨rfl, rfl, rfl⟩]
          rw [this]
          refine ⟨by omega, fun t ht => ?_⟩
          unfold puC; rw [if_pos ht]
        · have hlt : pN q a b c < p := by omega
          have hne : ¬ (a = i ∧ b = j ∧ c = k) := fun e2 => e (by rw [e2.1, e2.2.1, e2.2.2]; exact hnum)
          have : stC g i j k v a b c = g a b c := by unfold stC; rw [if_neg hne]
          rw [this]
          obtain ⟨h1, h2⟩ := I.got a b c h hlt
          refine ⟨h1, fun t ht => ?_⟩
          unfold puC
          rw [if_neg (hdisj a b c h hlt t ht)]
          exact h2 t ht
      · unfold puC
        by_cases e : (a, b, c) ∈ trn d i j k
        · exact Or.inr ⟨i, j, k, hin, by omega, e⟩
        · rw [if_neg e]
          rcases I.opn a b c h with h1 | ⟨x, y, z, h1, h2, h3⟩
          · exact Or.inl h1
          · exact Or.inr ⟨x, y, z, h1, by omega, h3⟩
    · rw [if_neg ho]
      rcases I.opn i j k hin with h | ⟨x, y, z, hx, hxp, hm⟩
      · exact absurd h ho
      obtain ⟨hb, hg⟩ := I.got x y z hx hxp
      have hu := hg _ hm
      simp only at hu
      obtain ⟨u, hu2⟩ : ∃ u : Nat, g x y z = u := ⟨(g x y z).toNat, by omega⟩
      have hxne : ¬ (x = i ∧ y = j ∧ z = k) := fun e => by rw [e.1, e.2.1, e.2.2, hnum] at hxp; omega
      have IH : srch d q m r f = gro q m r (stC g i j k u) := by
        refine srch_gro P r _ _ (by omega) ?_ (DS u)
        rw [hp1]
        refine ⟨fun a b c h => ?_, fun a b c h hlt => ?_, fun a b c h => ?_⟩
        · unfold stC
          rw [if_neg (fun e => h (by rw [e.1, e.2.1, e.2.2]; exact hin))]
          exact I.out a b c h
        · by_cases e : pN q a b c = p
          · obtain ⟨rfl, rfl, rfl⟩ := pN_inj P h hin (e.trans hnum.symm)
            have : stC g a b c u a b c = u := by unfold stC; rw [if_pos ⟨rfl, rfl, rfl⟩]
            rw [this]
            refine ⟨by omega, fun t ht => ?_⟩
            rw [hg t (P.tr hx hm ht), hu2]
          · have hlt : pN q a b c < p := by omega
            have hne : ¬ (a = i ∧ b = j ∧ c = k) := fun e2 => e (by rw [e2.1, e2.2.1, e2.2.2]; exact hnum)
            have : stC g i j k u a b c = g a b c := by unfold stC; rw [if_neg hne]
            rw [this]
            exact I.got a b c h hlt
        · rcases I.opn a b c h with h1 | ⟨x, y, z, h1, h2, h3⟩
          · exact Or.inl h1
          · exact Or.inr ⟨x, y, z, h1, by omega, h3⟩
      rw [IH]
      have key : ∀ v : Nat, (if fitB (q + 1) (stC g i j k v) i j k = true then gro q m r (stC g i j k v) else []) = if v = u then gro q m r (stC g i j k u) else [] := fun v => by
        by_cases e : v = u
        · subst e
          rw [if_pos rfl, if_pos]
          unfold fitB
          rw [hdn]
          rcases P.ord hin with h | h | h | h
          · simp only [decide_eq_true h, Bool.true_or]
          · simp only [decide_eq_true h.1, decide_eq_true h.2, Bool.and_self, Bool.or_true, Bool.true_or]
          · rw [h.1, h.2]; simp
          · have h9 := (I.got _ _ _ (P.tin (t := (d.getD i 0, k, j)) hin (by simp [trn])) (by rw [← hnum]; exact h)).2 _ (P.sym hin (show (d.getD i 0, k, j) ∈ trn d i j k by simp [trn]))
            simp only at h9
            have h8 : stC g i j k v i j k = v := by unfold stC; rw [if_pos ⟨rfl, rfl, rfl⟩]
            have h7 : stC g i j k v (d.getD i 0) k j = g (d.getD i 0) k j := by
              unfold stC; rw [if_neg]
              intro e; rw [e.1, e.2.1, e.2.2] at h; omega
            rw [h8, h7, ← h9, hu, hu2]; simp
        · rw [if_neg e]
          split
          · rw [List.eq_nil_iff_forall_not_mem]
            intro h hh
            obtain ⟨h1, h2⟩ := gro_mem P r _ h (by omega) hh
            have Dh : DuB d (q + 1) h := (DS v).cong fun a b => (h2 a b 0 (fun hi => by obtain ⟨_, _, _, _, h5, _⟩ := hi; omega)).symm
            have h3 := flt_trn h1 Dh P hx hm
            simp only at h3
            rw [h2 i j k (fun _ => by omega), h2 x y z (fun _ => by omega)] at h3
            have h8 : stC g i j k v i j k = v := by unfold stC; rw [if_pos ⟨rfl, rfl, rfl⟩]
            have h7 : stC g i j k v x y z = g x y z := by unfold stC; rw [if_neg hxne]
            rw [h8, h7, hu2] at h3
            omega
          · rfl
      rw [show (fun (v : Nat) => if fitB (q + 1) (stC g i j k v) i j k = true then gro q m r (stC g i j k v) else []) = fun v => if v = u then gro q m r (stC g i j k u) else [] from funext key]
      exact (range_flat _ u _ (by omega)).symm
end Go.Proofs.Ytmdmojklagmmiaa
