/- Texts of numbers. -/
import Derived.Test.YtaffiohdjkbkkaaDoorNumE
import Derived.Lib.ItoaNum
import Derived.Deep.RegionWith
import Derived.WalkLawsBesides
import Derived.Laws.BytesArg
namespace Go.Proofs.YtaffiohdjkbkkaaDoor
open Go.RowKit
theorem dec_lt (u : Nat) (h : u < 10) : Lib.decDigits u = [UInt8.ofNat (48 + u)] := Lib.decDigits_one h
theorem dec_ge (u : Nat) (h : ¬ u < 10) : Lib.decDigits u = Lib.decDigits (u / 10) ++ [UInt8.ofNat (48 + u % 10)] := by rw [Lib.decDigits, dif_neg h]
theorem dec_len : ∀ u : Nat, (Lib.decDigits u).length ≤ u + 1 := by
  intro u
  induction u using Nat.strongRecOn with
  | ind u ih =>
    by_cases h : u < 10
    · rw [dec_lt u h]; simp
    · rw [dec_ge u h]
      have := ih (u / 10) (by omega)
      simp; omega
theorem ret_str {l m : List UInt8} (h : l = m) : Ending.returned (.string ⟨l.toArray⟩) = .returned (.string ⟨m.toArray⟩) := by rw [h]
theorem ret_ba {a b : ByteArray} (h : a = b) : Ending.returned (.string a) = .returned (.string b) := by rw [h]
/-- a byte as a string -/
theorem conv_at (W : World) (b : Nat) (c : Int) (h : W.cell? ⟨b, 0, none⟩ = some (.int .u8 c)) : (convert 55 9 (.slice (some ⟨b, 0, none⟩) 1 1)).run Tryd.prog W = .ok (.string ⟨#[UInt8.ofNat c.toNat]⟩) W := by
  have := run_convert_bytes_arg (P := Tryd.prog) W 55 5 Tryd.underlying55 Tryd.underlying5 b 0 1 1 [c] rfl (fun i hi => by
    obtain rfl : i = 0 := by omega
    simpa using h) 9 Tryd.underlying9
  rw [this]; rfl
theorem conv_new (W : World) (c : Int) : (convert 55 9 (.slice (some ⟨W.heap.size, 0, none⟩) 1 1)).run Tryd.prog (W.alloc (.cells #[.int .u8 c] 5)) = .ok (.string ⟨#[UInt8.ofNat c.toNat]⟩) (W.alloc (.cells #[.int .u8 c] 5)) :=
  conv_at _ _ c (by simp [go_sem])
theorem conv_new' (W : World) (c : Int) : (convert 55 9 (.slice (some ⟨W.heap.size, 0, none⟩) 1 1)).run Tryd.prog (W.alloc (.cells #[.int .u8 c] 5)).drew = .ok (.string ⟨#[UInt8.ofNat c.toNat]⟩) (W.alloc (.cells #[.int .u8 c] 5)).drew :=
  conv_at _ _ c (by simp [go_sem])
theorem conv_kept {w w' : World} {c : Int} (hb : Below (w.alloc (.cells #[.int .u8 c] 5)).drew.heap.size (w.alloc (.cells #[.int .u8 c] 5)).drew w') : (convert 55 9 (.slice (some ⟨w.heap.size, 0, none⟩) 1 1)).run Tryd.prog w' = .ok (.string ⟨#[UInt8.ofNat c.toNat]⟩) w' := by
  apply conv_at
  rw [hb.cell (p := ⟨w.heap.size, 0, none⟩) (by simp)]
  simp [go_sem]
set_option maxRecDepth 100000 in
theorem l01Dec_any (k : Nat) : ∀ (n : Int) (w : World), 0 ≤ n → n ≤ k → k ≤ 1000000 →
    Calls Tryd.prog 19 #[.int .i64 n] w fun e w' => e = .returned (.string ⟨(Lib.decDigits n.toNat).toArray⟩) ∧ Below w.heap.size w w' := by
  induction k with
  | zero =>
    intro n w h0 h1 _
    obtain rfl : n = 0 := by omega
    have H := Lib.hid (dec_lt (0 : Int).toNat (by decide))
    have hcv := conv_new w 48
    go_enter Tryd.func19, Tryd.ntmps19
    go_wp2_with fail
    go_ret
    exact ⟨ret_ba (by rw [H.out]; rfl), (Below.refl _ _).alloc (Nat.le_refl _) _⟩
  | succ k ih =>
    intro n w h0 h1 h2
    by_cases hn : n < 10
    · have H := Lib.hid (dec_lt n.toNat (by omega))
      have hcv := conv_new w (48 + n)
      have Hc := Lib.hid (show (48 + n).toNat = 48 + n.toNat by omega)
      go_enter Tryd.func19, Tryd.ntmps19
      go_wp2_with fail
      go_ret
      exact ⟨ret_ba (by rw [H.out, Hc.out]), (Below.refl _ _).alloc (Nat.le_refl _) _⟩
    · have H := Lib.hid (dec_ge n.toNat (by omega))
      have IH := Lib.hid ih
      clear ih
      have e1 : IntKind.i64.wrap (n.tdiv 10) = n / 10 := by rw [Int.tdiv_eq_ediv_of_nonneg h0, IntWalk.i64_in _ (by omega)]
      have e2 : n.tmod 10 = n % 10 := Int.tmod_eq_emod_of_nonneg h0
      have e3 : IntKind.i64.wrap (48 + n % 10) = 48 + n % 10 := IntWalk.i64_in _ (by omega)
      have e4 : IntKind.u8.wrap (48 + n % 10) = 48 + n % 10 := IntWalk.u8_in _ (by omega)
      have hlen : (Lib.decDigits (n / 10).toNat).length ≤ 1000001 := by have := dec_len (n / 10).toNat; omega
      have Ht := Lib.hid (show n.toNat / 10 = (n / 10).toNat by omega)
      have Hu := Lib.hid (show 48 + n.toNat % 10 = (48 + n % 10).toNat by omega)
      have Hz := Lib.hid (show ∀ w' : World, w.drew.heap.size ≤ w'.heap.size → w.heap.size ≤ w'.heap.size from fun _ h => h)
      have hcv := fun W => conv_new W (48 + n % 10)
      have hcv' := fun W => conv_new' W (48 + n % 10)
      go_enter Tryd.func19, Tryd.ntmps19
      go_wp2_with fail
      go_region_with (go_at_call 19; refine (IH.out _ _ (by omega) (by omega) (by omega)).mono ?_; rintro e w' ⟨rfl, hb⟩; first | (have hcw := conv_kept hb) | skip)
      all_goals
        go_wp2_with fail
        go_ret
        refine ⟨ret_ba ?_, ?_⟩
        · rw [H.out, Ht.out, Hu.out]
          exact ByteArray.mk_append_mk _ _
        · first
            | exact ((Below.drew (Below.refl w.heap.size w)).trans hb).alloc (Hz.out _ hb.size) _
            | exact (Below.drew ((Below.refl w.heap.size w).alloc (Nat.le_refl _) _)).trans (hb.mono (by simp))
end Go.Proofs.YtaffiohdjkbkkaaDoor
