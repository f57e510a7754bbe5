/- OppositeRing of the specification. -/
import Derived.Test.YtmdmojklagmmiaaOpp
namespace Go.Proofs.Ytmdmojklagmmiaa
open Go.RowKit
set_option linter.unusedSimpArgs false
/-- one table is appended to an own list of tables -/
theorem pushTab (w : World) {ops : Array Oper} {rest : List Oper} {o : Oper} {a : Act} {Q : Exit → Act → World → Prop} (hgd : o.guard = none) (s x : Operand)
    (ho : o.op = .call { callee := .builtin .append, args := #[s, x], argTypes := #[22, 22] })
    (base : Nat) (v : Value) (n : Nat) (xs : List Value) (hs : a.eval s = v) (hown : w.ownsRow base 51 1 v n xs)
    (ad : Addr) (y : Option Addr) (m k : Nat) (hx : a.eval x = .slice (some ad) 1 1) (hy : ∀ j u, [Value.slice y m k][j]? = some u → w.cell? (ad.add j) = some u) (hn : n ≤ 1000000000) (hbase : base ≤ w.heap.size)
    (h : ∀ g c w', w'.ownsRow base 51 1 (.slice (some ⟨g, 0, none⟩) (n + 1) c) (n + 1) (xs ++ [.slice y m k]) → w.grownBy w' v.ownBlock → wpList Try.prog ops Q rest (a.put o.dst (.slice (some ⟨g, 0, none⟩) (n + 1) c)) w') : wpList Try.prog ops Q (o :: rest) a w := by
  obtain ⟨i0, hi, hz0, hz1, hz2⟩ := info_parts infoTab
  refine wpList_append_own w hgd s x _ ho base 51 i0 (.slice none 0 0) 1 24 Try.underlying22 hi hz0 hz1 hz2 rfl (by decide) v n xs hs hown ad 1 1 [.slice y m k] hx rfl hy (fun u hu => by rw [List.mem_singleton.1 hu]; rfl) (by unfold maxLen; omega) (by omega) hbase ?_
  intro v' w' h1 h2 _
  obtain ⟨g, c, rfl⟩ := Go.Joins.ownsRow_form h1 (by omega)
  exact h g c w' h1 h2
/-- a whole row is copied over another one -/
theorem copyRow64 (w : World) {ops : Array Oper} {rest : List Oper} {o : Oper} {a : Act} {Q : Exit → Act → World → Prop} (hgd : o.guard = none) (d s : Operand)
    (ho : o.op = .call { callee := .builtin .copy, args := #[d, s], argTypes := #[26, 26] })
    (g n dc b2 o2 c2 : Nat) (F h : Nat → Int) (hd : a.eval d = .slice (some ⟨g, 0, none⟩) n dc) (hs : a.eval s = .slice (some ⟨b2, o2, none⟩) n c2) (hr : RowI w 2 g n F)
    (hsrc : ∀ k, k < n → w.cell? ⟨b2, o2 + k, none⟩ = some (.int .i64 (h k)))
    (hk : ∀ w', RowI w' 2 g n h → Only (fun k => k = g) w w' → wpList Try.prog ops Q rest (a.put o.dst (goInt n)) w') : wpList Try.prog ops Q (o :: rest) a w := by
  obtain ⟨cur, hg, hc⟩ := hr
  have hlen : ((List.range n).map fun i => Value.int .i64 (h i)).length = n := by simp
  have hfit : n ≤ cur.size := by
    by_cases e : n = 0
    · omega
    · have := (Array.getElem?_eq_some_iff.1 (hc (n - 1) (by omega))).1; omega
  refine wpList_copy_own hgd d s _ _ ho 2 Try.underlying26 (by kernel_rfl) g 0 n dc ⟨b2, o2, none⟩ n c2 hd hs cur 2 hg ((List.range n).map fun i => .int .i64 (h i)) (by simp) (fun j v hv => ?_) (by rw [hlen]; omega) (fun v hv => by obtain ⟨i, _, rfl⟩ := List.mem_map.1 hv; rfl) ?_
  · rw [List.getElem?_map] at hv
    by_cases hj : j < n
    · rw [List.getElem?_range hj] at hv
      simp only [Option.map_some, Option.some.injEq] at hv
      rw [add_flat, hsrc j hj, hv]
    · rw [List.getElem?_eq_none (by simp; omega)] at hv
      simp at hv
  · rw [hlen]
    refine hk _ ⟨_, setRow_heap w g cur _ 2 _ hg, fun i hi => ?_⟩ ⟨rfl, rfl, rfl, by simp [World.setRow], fun k hk => setRow_other w g k _ hk⟩
    simp only [List.getElem?_toArray, List.take_zero, List.nil_append]
    rw [List.getElem?_append_left (by simpa using hi), List.getElem?_map, List.getElem?_range hi]
    rfl
theorem l03Own_f (a : Option Addr) (n c : Nat) (f : Nat → Nat → Nat → Int) (w : World) (h : RdT w a n (fun _ => n) (fun _ _ => n) f) (h0 : 0 < n) (hn : n ≤ 1000) :
    Calls Try.prog 106 #[.slice a n c] w fun e w' => ∃ g cg, e = .returned (.slice (some ⟨g, 0, none⟩) n cg) ∧ CubO w' w.heap.size w'.heap.size g n (fun _ => n) (fun _ _ => n) f ∧ Below w.heap.size w w' := by
  have H := Lib.hid h
  clear h
  go_enter Try.func106, Try.ntmps106
  go_wp2_with fail
  go_loopw [3, 4] (fun v i wr => ∃ (q g c : Nat) (C B : Nat → Nat) (CC G : Nat → Nat → Nat), q ≤ n ∧ i = .int .i64 q ∧ v = .slice (some ⟨g, 0, none⟩) q c ∧ AccT w wr (.slice (some ⟨g, 0, none⟩) q c) q (fun _ => n) (fun _ _ => n) C B CC G f) (fun _ i _ => n - (intOf i).toNat)
  case atStart => exact ⟨0, _, _, fun _ => 0, fun _ => 0, fun _ _ => 0, fun _ _ => 0, by omega, rfl, rfl, AccT.start _ _ _ _ _ _ _ _⟩
  case round =>
    obtain ⟨q, g, cg, C', B', CC', G', hq, rfl, rfl, hacc⟩ := hrel
    have HA := Lib.hid hacc
    clear hacc
    by_cases hlt : q < n
    · obtain ⟨b, off, A, C, rfl, hb, hc⟩ := H.out.open (by omega)
      have e1 : wr.cell? ⟨b, off + q, none⟩ = some (.slice (A q) n (C q)) := by
        rw [HA.out.bel.cell (p := ⟨b, off + q, none⟩) hb]; exact (hc q hlt).1
      have Hr := Lib.hid ((hc q hlt).2.below HA.out.bel (Nat.le_refl _))
      clear hc
      generalize A q = aq at *
      generalize C q = cq at *
      go_wp2_with fail
      refine (l01Own2_f aq n n cq (f q) _ Hr.out h0 (by omega) (by omega)).mono ?_
      rintro e w1 ⟨g2, c2, y1, y2, y3, y4, rfl, hM1, hb1⟩
      have HK := Lib.hid (HA.out.kept hb1)
      have HM := Lib.hid hM1
      have HB1 := Lib.hid hb1
      have HY := Lib.hid (And.intro y3 y4)
      clear hM1 hb1 y3 y4
      have hsz := HK.out.bel.size
      go_wp2_with (at_builtin; refine pushTab _ rfl _ _ rfl w.heap.size _ q _ rfl (HK.out.own.alloc _) ⟨w1.heap.size, 0, none⟩ (some ⟨g2, 0, none⟩) n c2 rfl (cell_one_new _ _ _) (by omega) (by simp; omega) ?_; intro g3 c3 w3 hown3 hgr3)
      have HP := Lib.hid (HA.out.push HB1.out rfl HY.out.1 HY.out.2 HM.out _ hown3 hgr3)
      go_roundw
      case rel => exact ⟨q + 1, g3, c3, _, _, _, _, by omega, by go_num, rfl, HP.out⟩
      case measure => simp [intOf]; omega
    · obtain rfl : q = n := by omega
      go_wp2_with fail
      go_ret
      exact ⟨g, cg, rfl, ⟨_, _, _, _, HA.out.done.2.2⟩, HA.out.bel⟩
end Go.Proofs.Ytmdmojklagmmiaa
