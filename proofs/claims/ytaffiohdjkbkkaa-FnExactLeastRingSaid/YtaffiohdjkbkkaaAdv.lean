/- The next permutation, and the comparison of renumbered tables: of the program. -/
import Derived.Test.YtaffiohdjkbkkaaPrm
namespace Go.Proofs.Ytaffiohdjkbkkaa
open Go.RowKit
set_option linter.unusedSimpArgs false
/-- a list read as numbers -/
def lF (l : List Nat) (j : Nat) : Int := (l.getD j 0 : Nat)
theorem RowI.cellv {w : World} {t : TypeId} {b n i : Nat} {f : Nat → Int} {x : Int} (h : RowI w t b n f) (hi : i < n) (e : f i = x) : w.cell? ⟨b, i, none⟩ = some (.int .i64 x) := by
  rw [← e]; exact RowB.cell h hi
/-- the places s .. s + r - 1 the other way round -/
def revF (F : Nat → Int) (s r : Nat) (j : Nat) : Int := if s ≤ j ∧ j < s + r then F (s + (r - 1 - (j - s))) else F j
set_option maxRecDepth 100000 in
theorem reverse_f (g s r c N : Nat) (F : Nat → Int) (w : World) (h : RowI w 2 g N F) (hs : s + r ≤ N) (hr : r ≤ 1000) :
    Calls Try.prog 180 #[.slice (some ⟨g, s, none⟩) r c] w fun e w' => e = .returned (.tuple #[]) ∧ RowI w' 2 g N (revF F s r) ∧ Only (fun k => k = g) w w' := by
  have H := Lib.hid h
  clear h
  go_enter Try.func180, Try.ntmps180
  go_wp2_with fail
  go_loopw [2, 3] (fun x y wr => ∃ k : Nat, 2 * k ≤ r + 1 ∧ x = .int .i64 k ∧ y = .int .i64 ((r : Int) - 1 - k) ∧ RowI wr 2 g N (fun j => if s ≤ j ∧ j < s + r ∧ (j - s < k ∨ r ≤ j - s + k) then F (s + (r - 1 - (j - s))) else F j) ∧ Only (fun k => k = g) w wr) (fun x y _ => ((intOf y) - (intOf x) + 1).toNat)
  case atStart => exact ⟨0, by omega, rfl, by simp, H.out.congr (fun j _ => by rw [if_neg (by omega)]), Only.refl _ _⟩
  case round =>
    obtain ⟨k, hk, rfl, rfl, hrow, hon⟩ := hrel
    have HR := Lib.hid hrow
    have HO := Lib.hid hon
    clear hrow hon
    by_cases hlt : (k : Int) < (r : Int) - 1 - k
    · obtain ⟨q, hq⟩ : ∃ q : Nat, (q : Int) = (r : Int) - 1 - k := ⟨r - 1 - k, by omega⟩
      rw [← hq] at hlt ⊢
      have hqk : r - 1 - k = q := by omega
      obtain ⟨X, hX⟩ : ∃ X : Nat → Int, X = (fun j => if s ≤ j ∧ j < s + r ∧ (j - s < k ∨ r ≤ j - s + k) then F (s + (r - 1 - (j - s))) else F j) := ⟨_, rfl⟩
      rw [← hX] at HR
      have x1 : X (s + k) = F (s + k) := by rw [hX]; simp only; rw [if_neg (by omega)]
      have x2 : X (s + q) = F (s + q) := by rw [hX]; simp only; rw [if_neg (by omega)]
      have e1 : wr.cell? ⟨g, s + k, none⟩ = some (.int .i64 (F (s + k))) := by rw [← x1]; exact RowB.cell HR.out (show s + k < N by omega)
      have e2 : wr.cell? ⟨g, s + q, none⟩ = some (.int .i64 (F (s + q))) := by rw [← x2]; exact RowB.cell HR.out (show s + q < N by omega)
      have f1 := RowB.frozen HR.out (s + k)
      have hset := RowI.set HR.out (s + k) (F (s + q))
      have e3 : (wr.setCell ⟨g, s + k, none⟩ (.int .i64 (F (s + q)))).cell? ⟨g, s + q, none⟩ = some (.int .i64 (F (s + q))) := by
        exact RowI.cellv hset (show s + q < N by omega) (by show (if _ then _ else _) = _; rw [if_neg (by omega), x2])
      have f2 := RowB.frozen hset (s + q)
      have HS := Lib.hid (RowI.set hset (s + q) (F (s + k)))
      have HO2 := Lib.hid (show Only (fun k => k = g) w ((wr.setCell ⟨g, s + k, none⟩ (.int .i64 (F (s + q)))).setCell ⟨g, s + q, none⟩ (.int .i64 (F (s + k)))) from Only.setCell (p := ⟨g, s + q, none⟩) (Only.setCell (p := ⟨g, s + k, none⟩) HO.out rfl _) rfl _)
      have HX := Lib.hid hX
      clear hset hX x1 x2 HR HO
      have hlt2 : decide ((k : Int) < (q : Int)) = true := by simp; omega
      generalize hy1 : F (s + k) = y1 at *
      generalize hy2 : F (s + q) = y2 at *
      have HY1 := Lib.hid hy1
      have HY2 := Lib.hid hy2
      clear hy1 hy2
      go_wp2_with fail
      go_region
      have HS2 := Lib.hid (show RowI ((wr.setCell ⟨g, s + k, none⟩ (.int .i64 y2)).setCell ⟨g, s + q, none⟩ (.int .i64 y1)).drew 2 g N _ from HS.out)
      have HO3 := Lib.hid (show Only (fun k => k = g) w ((wr.setCell ⟨g, s + k, none⟩ (.int .i64 y2)).setCell ⟨g, s + q, none⟩ (.int .i64 y1)).drew from HO2.out.drewN 1)
      clear HS HO2 e1 e2 e3 f1 f2
      obtain ⟨w2, hw2⟩ : ∃ x, x = ((wr.setCell ⟨g, s + k, none⟩ (.int .i64 y2)).setCell ⟨g, s + q, none⟩ (.int .i64 y1)).drew := ⟨_, rfl⟩
      rw [← hw2] at HS2 HO3 ⊢
      clear hw2
      go_wp2_with fail
      exact ⟨⟨k + 1, by omega, by go_num, by go_num, HS2.out.congr (fun j _ => by
        have hxx := HX.out; have a1 := HY1.out; have a2 := HY2.out
        by_cases e : j = s + q
        · rw [if_pos e, if_pos (by omega), ← a1, e]; congr 1; omega
        · rw [if_neg e]
          by_cases e' : j = s + k
          · rw [if_pos e', if_pos (by omega), ← a2, e']; congr 1; omega
          · rw [if_neg e', hxx]
            show (if _ then _ else _) = _
            by_cases e3 : s ≤ j ∧ j < s + r ∧ (j - s < k ∨ r ≤ j - s + k)
            · rw [if_pos e3, if_pos (by omega)]
            · rw [if_neg e3, if_neg (by omega)]), HO3.out⟩, by simp [intOf]; omega⟩
    · have hlt2 : decide ((k : Int) < (r : Int) - 1 - k) = false := by simp; omega
      go_wp2_with fail
      go_end0
      refine ⟨rfl, HR.out.congr (fun j _ => ?_), HO.out⟩
      unfold revF
      by_cases e : s ≤ j ∧ j < s + r
      · rw [if_pos e]
        by_cases e2 : j - s < k ∨ r ≤ j - s + k
        · rw [if_pos ⟨e.1, e.2, e2⟩]
        · rw [if_neg (fun h => e2 h.2.2)]
          congr 1; omega
      · rw [if_neg e, if_neg (fun h => e ⟨h.1, h.2.1⟩)]
theorem at1 (l : List Nat) (i j x : Nat) (hi : i + 1 < l.length) (hx : x < l.length) :
  ((((l.set i (l.getD j 0)).set j (l.getD i 0)).take (i + 1)) ++ (((l.set i (l.getD j 0)).set j (l.getD i 0)).drop (i + 1)).reverse).getD x 0 = (let y := if x ≤ i then x else l.length + i - x; if y = j then l.getD i 0 else if y = i then l.getD j 0 else l.getD y 0) := by
  have key : ∀ y, y < l.length → ((l.set i (l.getD j 0)).set j (l.getD i 0)).getD y 0 = (if y = j then l.getD i 0 else if y = i then l.getD j 0 else l.getD y 0) := by
    intro y hy
    rw [List.getD_eq_getElem?_getD, List.getElem?_set, List.getElem?_set]
    by_cases e : j = y
    · subst e; simp [hy]
    · rw [if_neg e, if_neg (fun h : y = j => e h.symm)]
      by_cases e2 : i = y
      · subst e2; simp [hy]
      · rw [if_neg e2, if_neg (fun h : y = i => e2 h.symm), List.getD_eq_getElem?_getD]
  have hm : ((l.set i (l.getD j 0)).set j (l.getD i 0)).length = l.length := by simp
  generalize (l.set i (l.getD j 0)).set j (l.getD i 0) = m at *
  simp only
  rw [← key _ (by split <;> omega)]
  rw [List.getD_eq_getElem?_getD, List.getD_eq_getElem?_getD]
  by_cases e : x ≤ i
  · rw [if_pos e, List.getElem?_append_left (by simp; omega), List.getElem?_take, if_pos (by omega)]
  · rw [if_neg e, List.getElem?_append_right (by simp; omega), List.getElem?_reverse (by simp; omega), List.getElem?_drop]
    congr 2; simp; omega
def swpF (F : Nat → Int) (a b : Nat) (y : Nat) : Int := if y = b then F a else if y = a then F b else F y
theorem nextP_at {l l' : List Nat} (h : nextP l = some l') : upI l (l.length - 1) ≠ 0 ∧ l'.length = l.length ∧
    ∀ x, x < l.length → lF l' x = swpF (lF l) (upI l (l.length - 1) - 1) (dnJ l (l.getD (upI l (l.length - 1) - 1) 0) (l.length - 1)) (if x ≤ upI l (l.length - 1) - 1 then x else l.length + (upI l (l.length - 1) - 1) - x) := by
  unfold nextP at h
  by_cases h0 : upI l (l.length - 1) = 0
  · rw [if_pos h0] at h; cases h
  · rw [if_neg h0] at h
    simp only [Option.some.injEq] at h
    have hk : ∀ k, upI l k ≤ k := by
      intro k
      induction k with
      | zero => exact Nat.le_refl _
      | succ k ih => simp only [upI]; split <;> omega
    have hk1 := hk (l.length - 1)
    generalize hi : upI l (l.length - 1) - 1 = i at *
    generalize dnJ l (l.getD i 0) (l.length - 1) = j at *
    subst h
    refine ⟨h0, by simp; omega, fun x hx => ?_⟩
    unfold lF
    rw [at1 l i j x (by omega) hx]
    unfold swpF
    simp only
    split <;> (split <;> first | rfl | (split <;> rfl))
theorem advance0_f (a : Option Addr) (c : Nat) (w : World) : Calls Try.prog 134 #[.slice a 0 c] w fun e w' => e = .returned (.bool false) ∧ Only (fun _ => False) w w' := by
  go_enter Try.func134, Try.ntmps134
  go_wp2_with fail
  go_loopw [3] (fun x wr => x = .int .i64 (-2) ∧ Only (fun _ => False) w wr) (fun _ _ => 0)
  case atStart => exact ⟨rfl, Only.refl _ _⟩
  case round =>
    obtain ⟨rfl, hb⟩ := hrel
    have HB := Lib.hid hb
    clear hb
    go_wp2_with fail
    go_region
    have HB := Lib.hid (HB.out.drewN 1)
    go_wp2_with fail
    go_ret
    exact ⟨rfl, HB.out⟩
set_option maxHeartbeats 4000000 in
set_option maxRecDepth 100000 in
theorem advance_f (g o m c N : Nat) (l : List Nat) (F : Nat → Int) (w : World) (h : RowI w 2 g N F) (hN : o + m ≤ N) (hl : l.length = m) (hF : ∀ x, x < m → F (o + x) = lF l x) (hm0 : 0 < m) (hm : m ≤ 1000) (hc : m ≤ c) :
    Calls Try.prog 134 #[.slice (some ⟨g, o, none⟩) m c] w fun e w' => e = .returned (.bool (nextP l).isSome) ∧ Only (fun k => k = g) w w' ∧ RowI w' 2 g N (fun j => if o ≤ j ∧ j < o + m then lF ((nextP l).getD l) (j - o) else F j) := by
  have H := Lib.hid h
  have HF := Lib.hid hF
  have rd : ∀ (u : World) (x : Nat), RowI u 2 g N F → x < m → u.cell? ⟨g, o + x, none⟩ = some (.int .i64 (l.getD x 0 : Nat)) := fun u x hu hx => RowI.cellv hu (by omega) (hF x hx)
  have RD := Lib.hid rd
  clear h hF rd
  obtain ⟨K, hK⟩ : ∃ K, K = upI l (l.length - 1) := ⟨_, rfl⟩
  go_enter Try.func134, Try.ntmps134
  go_wp2_with fail
  go_loopw [3] (fun x wr => ∃ k : Nat, k + 1 ≤ m ∧ x = .int .i64 ((k : Int) - 1) ∧ upI l k = K ∧ RowI wr 2 g N F ∧ Only (fun k => k = g) w wr) (fun x _ => ((intOf x) + 1).toNat)
  case atStart => exact ⟨m - 1, by omega, by go_num, by rw [hK, hl], H.out, Only.refl _ _⟩
  case round =>
    obtain ⟨k, hk, rfl, hup, hrow, hon⟩ := hrel
    have HR := Lib.hid hrow
    have HO := Lib.hid hon
    clear hrow hon
    by_cases h0 : k = 0
    · subst h0
      have HN := Lib.hid (show nextP l = none by unfold nextP; rw [if_pos (by rw [← hK, ← hup]; rfl)])
      go_wp2_with fail
      go_region
      have HR2 := Lib.hid (show RowI wr.drew 2 g N F from HR.out)
      have HO2 := Lib.hid (HO.out.drewN 1)
      go_wp2_with fail
      go_ret
      refine ⟨by rw [HN.out]; rfl, HO2.out, HR2.out.congr fun j _ => ?_⟩
      rw [HN.out]
      by_cases e : o ≤ j ∧ j < o + m
      · rw [if_pos e]
        have := HF.out (j - o) (by omega)
        rw [show o + (j - o) = j by omega] at this
        exact this
      · rw [if_neg e]
    · obtain ⟨k, rfl⟩ : ∃ k', k = k' + 1 := ⟨k - 1, by omega⟩
      have e1 := RD.out wr k HR.out (by omega)
      have e2 := RD.out wr (k + 1) HR.out (by omega)
      have hs : ((k + 1 : Nat) : Int) - 1 = k := by omega
      rw [hs]
      by_cases hgt : l.getD (k + 1) 0 < l.getD k 0
      · have hup2 : upI l k = K := by rw [← hup]; simp only [upI, if_pos hgt]
        obtain ⟨x1, hx1⟩ : ∃ x, x = l.getD k 0 := ⟨_, rfl⟩
        obtain ⟨x2, hx2⟩ : ∃ x, x = l.getD (k + 1) 0 := ⟨_, rfl⟩
        rw [← hx1] at e1 hgt
        rw [← hx2] at e2 hgt
        have hd : decide ((x2 : Int) < (x1 : Int)) = true := by simp; omega
        clear hup hx1 hx2
        go_wp2_with fail
        go_region
        have HR2 := Lib.hid (show RowI wr.drew 2 g N F from HR.out)
        have HO2 := Lib.hid (HO.out.drewN 1)
        go_wp2_with fail
        exact ⟨⟨k, by omega, by go_num, hup2, HR2.out, HO2.out⟩, by simp [intOf]⟩
      · obtain rfl : k + 1 = K := by rw [← hup]; simp only [upI, if_neg hgt]
        have HK := Lib.hid hK
        obtain ⟨x1, hx1⟩ : ∃ x, x = l.getD k 0 := ⟨_, rfl⟩
        obtain ⟨x2, hx2⟩ : ∃ x, x = l.getD (k + 1) 0 := ⟨_, rfl⟩
        have HX1 := Lib.hid hx1
        rw [← hx1] at e1 hgt
        rw [← hx2] at e2 hgt
        have HGT := Lib.hid (show ¬ l.getD (k + 1) 0 < x1 by rw [← hx2]; exact hgt)
        have hd : decide ((x2 : Int) < (x1 : Int)) = false := by simp; omega
        have hd0 : decide ((k : Int) < 0) = false := by simp
        clear hup hK hx1 hx2
        go_wp2_with fail
        go_region
        have HR2 := Lib.hid (show RowI wr.drew 2 g N F from HR.out)
        have HO2 := Lib.hid (HO.out.drewN 1)
        clear e1 e2 HR HO
        obtain ⟨wv, hwv⟩ : ∃ x, x = wr.drew := ⟨_, rfl⟩
        have HR2 := Lib.hid (show RowI wv 2 g N F by rw [hwv]; exact HR2.out)
        have HO2 := Lib.hid (show Only (fun k => k = g) w wv by rw [hwv]; exact HO2.out)
        rw [← hwv]
        clear hwv
        go_wp2_with fail
        go_loopw [4] (fun x wr => ∃ j : Nat, k + 1 ≤ j ∧ j + 1 ≤ m ∧ x = .int .i64 j ∧ dnJ l x1 j = dnJ l x1 (m - 1) ∧ RowI wr 2 g N F ∧ Only (fun k => k = g) w wr) (fun x _ => (intOf x).toNat)
        case atStart => exact ⟨m - 1, by omega, by omega, by go_num, rfl, HR2.out, HO2.out⟩
        case round =>
          obtain ⟨j, hj1, hj2, rfl, hdn, hrow, hon⟩ := hrel
          have HR := Lib.hid hrow
          have HO := Lib.hid hon
          clear hrow hon
          have e1 : wr.cell? ⟨g, o + k, none⟩ = some (.int .i64 (x1 : Nat)) := by rw [HX1.out]; exact RD.out wr k HR.out (by omega)
          have e2 := RD.out wr j HR.out (by omega)
          obtain ⟨x3, hx3⟩ : ∃ x, x = l.getD j 0 := ⟨_, rfl⟩
          rw [← hx3] at e2
          by_cases hlt : x3 < x1
          · have hd : decide ((x3 : Int) < (x1 : Int)) = true := by simp; omega
            have hjk : j ≠ k + 1 := fun e => HGT.out (by rw [← e, ← hx3]; exact hlt)
            obtain ⟨j, rfl⟩ : ∃ j', j = j' + 1 := ⟨j - 1, by omega⟩
            have hdn2 : dnJ l x1 j = dnJ l x1 (m - 1) := by rw [← hdn]; simp only [dnJ]; rw [← hx3, if_pos hlt]
            clear hx3 hdn
            go_wp2_with fail
            go_region
            have HR2 := Lib.hid (show RowI wr.drew 2 g N F from HR.out)
            have HO2 := Lib.hid (HO.out.drewN 1)
            go_wp2_with fail
            exact ⟨⟨j, by omega, by omega, by go_num, hdn2, HR2.out, HO2.out⟩, by simp [intOf]⟩
          · have hd : decide ((x3 : Int) < (x1 : Int)) = false := by simp; omega
            have HJ := Lib.hid (show dnJ l x1 (m - 1) = j by
              rw [← hdn]
              obtain ⟨j, rfl⟩ : ∃ j', j = j' + 1 := ⟨j - 1, by omega⟩
              simp only [dnJ]; rw [← hx3, if_neg hlt])
            have HX3 := Lib.hid hx3
            clear hdn hx3
            go_wp2_with fail
            go_region
            obtain ⟨wq, hwq⟩ : ∃ x, x = wr.drew := ⟨_, rfl⟩
            have HR := Lib.hid (show RowI wq 2 g N F by rw [hwq]; exact HR.out)
            have HO := Lib.hid (show Only (fun k => k = g) w wq by rw [hwq]; exact HO.out.drewN 1)
            rw [← hwq]
            clear hwq e1 e2
            have e1 : wq.cell? ⟨g, o + k, none⟩ = some (.int .i64 (x1 : Nat)) := by rw [HX1.out]; exact RD.out wq k HR.out (by omega)
            have e2 : wq.cell? ⟨g, o + j, none⟩ = some (.int .i64 (x3 : Nat)) := by rw [HX3.out]; exact RD.out wq j HR.out (by omega)
            have f1 := RowB.frozen HR.out (o + k)
            have hset := RowI.set HR.out (o + k) (x3 : Nat)
            have e3 : (wq.setCell ⟨g, o + k, none⟩ (.int .i64 (x3 : Nat))).cell? ⟨g, o + j, none⟩ = some (.int .i64 (x3 : Nat)) :=
              RowI.cellv hset (show o + j < N by omega) (by show (if _ then _ else _) = _; rw [if_neg (by omega), HF.out j (by omega), HX3.out]; rfl)
            have f2 := RowB.frozen hset (o + j)
            have HS := Lib.hid (RowI.set hset (o + j) (x1 : Nat))
            have HO2 := Lib.hid (show Only (fun k => k = g) w ((wq.setCell ⟨g, o + k, none⟩ (.int .i64 (x3 : Nat))).setCell ⟨g, o + j, none⟩ (.int .i64 (x1 : Nat))) from Only.setCell (p := ⟨g, o + j, none⟩) (Only.setCell (p := ⟨g, o + k, none⟩) HO.out rfl _) rfl _)
            clear hset
            go_wp2_with fail
            go_region
            obtain ⟨w2, hw2⟩ : ∃ x, x = ((wq.setCell ⟨g, o + k, none⟩ (.int .i64 (x3 : Nat))).setCell ⟨g, o + j, none⟩ (.int .i64 (x1 : Nat))).drew := ⟨_, rfl⟩
            have HS2 := Lib.hid (show RowI w2 2 g N _ by rw [hw2]; exact HS.out)
            have HO3 := Lib.hid (show Only (fun k => k = g) w w2 by rw [hw2]; exact HO2.out.drewN 1)
            rw [← hw2]
            clear hw2 e1 e2 e3 f1 f2 HS HO2 HR HO
            go_wp2_with fail
            refine (reverse_f g (o + (k + 1)) (m - (k + 1)) (c - (k + 1)) N _ w2 HS2.out (by omega) (by omega)).mono ?_
            rintro e w3 ⟨rfl, hr3, ho3⟩
            have HR3 := Lib.hid hr3
            have HO4 := Lib.hid (HO3.out.trans ho3)
            clear hr3 ho3
            obtain ⟨l', hl'⟩ : ∃ l', nextP l = some l' := by
              unfold nextP; rw [if_neg (by rw [← HK.out]; omega)]; exact ⟨_, rfl⟩
            obtain ⟨n1, n2, n3⟩ := nextP_at hl'
            rw [← HK.out, show k + 1 - 1 = k by omega, hl, ← HX1.out, HJ.out] at n3
            have N3 := Lib.hid n3
            have HL := Lib.hid hl'
            clear n1 n2 n3 hl'
            go_wp2_with fail
            go_ret
            rw [HL.out]
            refine ⟨rfl, HO4.out, HR3.out.congr fun y _ => ?_⟩
            show revF _ _ _ y = if o ≤ y ∧ y < o + m then lF l' (y - o) else F y
            unfold revF
            by_cases h1 : o ≤ y ∧ y < o + m
            · have h2 := N3.out (y - o) (by omega)
              rw [if_pos h1, h2]
              have fk : lF l k = (x1 : Nat) := by rw [HX1.out]; rfl
              have fj : lF l j = (x3 : Nat) := by rw [HX3.out]; rfl
              have hf := HF.out
              unfold swpF
              rw [fk, fj]
              by_cases h3 : o + (k + 1) ≤ y ∧ y < o + (k + 1) + (m - (k + 1))
              · rw [if_pos h3, if_neg (show ¬ y - o ≤ k by omega)]
                have h4 := hf (m + k - (y - o)) (by omega)
                rw [show o + (k + 1) + (m - (k + 1) - 1 - (y - (o + (k + 1)))) = o + (m + k - (y - o)) by omega]
                show (if o + (m + k - (y - o)) = o + j then (x1 : Int) else if o + (m + k - (y - o)) = o + k then (x3 : Int) else F (o + (m + k - (y - o)))) = _
                by_cases h5 : m + k - (y - o) = j
                · rw [if_pos h5, if_pos (by omega)]
                · rw [if_neg h5, if_neg (by omega)]
                  by_cases h6 : m + k - (y - o) = k
                  · rw [if_pos h6, if_pos (by omega)]
                  · rw [if_neg h6, if_neg (by omega), h4]
              · rw [if_neg h3, if_pos (show y - o ≤ k by omega)]
                have h4 := hf (y - o) (by omega)
                rw [show o + (y - o) = y by omega] at h4
                show (if y = o + j then (x1 : Int) else if y = o + k then (x3 : Int) else F y) = _
                by_cases h5 : y - o = j
                · rw [if_pos h5, if_pos (by omega)]
                · rw [if_neg h5, if_neg (by omega)]
                  by_cases h6 : y - o = k
                  · rw [if_pos h6, if_pos (by omega)]
                  · rw [if_neg h6, if_neg (by omega), h4]
            · rw [if_neg h1, if_neg (show ¬ (o + (k + 1) ≤ y ∧ y < o + (k + 1) + (m - (k + 1))) by omega)]
              show (if y = o + j then (x1 : Int) else if y = o + k then (x3 : Int) else F y) = _
              rw [if_neg (by omega), if_neg (by omega)]
/-- the labels behind the first one go on to their next permutation -/
theorem adv_f (g n m c : Nat) (cur : List Nat) (a : Option Addr) (w : World) (h : RowI w 2 g n (lF (0 :: cur))) (hc : cur.length + 1 = n) (hm : m = n - 1) (ha : 0 < m → a = some ⟨g, 1, none⟩) (hmc : m ≤ c) (hn : n ≤ 1000) :
    Calls Try.prog 134 #[.slice a m c] w fun e w' => e = .returned (.bool (nextP cur).isSome) ∧ Only (fun k => k = g) w w' ∧ RowI w' 2 g n (lF (0 :: (nextP cur).getD cur)) := by
  by_cases h0 : m = 0
  · subst h0
    obtain rfl : cur = [] := List.eq_nil_of_length_eq_zero (by omega)
    refine (advance0_f a c w).mono ?_
    rintro e w' ⟨rfl, ho⟩
    exact ⟨rfl, ho.mono fun _ hk => hk.elim, RowB.only h ho (fun hk => hk)⟩
  · obtain rfl := ha (by omega)
    refine (advance_f g 1 m c n cur (lF (0 :: cur)) w h (by omega) (by omega) (fun x hx => ?_) (by omega) (by omega) hmc).mono ?_
    · unfold lF; rw [Nat.add_comm]; rfl
    · rintro e w' ⟨rfl, ho, hr⟩
      refine ⟨rfl, ho, hr.congr fun j hj => ?_⟩
      cases j with
      | zero => rw [if_neg (by omega)]; rfl
      | succ j => rw [if_pos (by omega), Nat.add_sub_cancel]; rfl
end Go.Proofs.Ytaffiohdjkbkkaa
