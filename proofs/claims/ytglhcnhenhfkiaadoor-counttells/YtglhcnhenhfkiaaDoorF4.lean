/-
  Contract of the document's answer for layer 1 (its Text) over the translation: for every number and style it returns the same plain function as count.Text; old memory stays as it was.
-/
import Derived.Test.YtglhcnhenhfkiaaDoorF3
import Derived.Test.YtglhcnhenhfkiaaDoorR
namespace Go.Proofs.YtglhcnhenhfkiaaDoor
open Go.RowKit Go.Sort

theorem ten_map (g : UInt8 → UInt8) (k : Nat) (o f t : List UInt8) : (tenL k o f t).map g = tenL k (o.map g) (f.map g) (t.map g) := by
  unfold tenL
  split <;> simp
theorem ten_tho (k : Nat) (h : k < 4) : tenL k [109] [] [] = thoL k := by
  have : ∀ k : Fin 4, tenL k [109] [] [] = thoL k := by decide
  exact this ⟨k, h⟩
theorem ten_hun (k : Nat) (h : k < 10) : tenL k [99] [100] [109] = (hunP (k * 100)).2 := by
  have : ∀ k : Fin 10, tenL k [99] [100] [109] = (hunP (k * 100)).2 := by decide +kernel
  exact this ⟨k, h⟩
theorem ten_ten (k : Nat) (h : k < 10) : tenL k [120] [108] [99] = (tenP (k * 10)).2 := by
  have : ∀ k : Fin 10, tenL k [120] [108] [99] = (tenP (k * 10)).2 := by decide +kernel
  exact this ⟨k, h⟩
theorem ten_one (k : Nat) (h : k < 10) : tenL k [105] [118] [120] = (oneP k).2 := by
  have : ∀ k : Fin 10, tenL k [105] [118] [120] = (oneP k).2 := by decide +kernel
  exact this ⟨k, h⟩
theorem rom_ten (n : Nat) (h : n ≤ 3999) : tenL (n / 1000 % 10) [109] [] [] ++ tenL (n / 100 % 10) [99] [100] [109] ++ tenL (n / 10 % 10) [120] [108] [99] ++ tenL (n % 10) [105] [118] [120] = romL n := by
  rw [show n / 1000 % 10 = n / 1000 by omega, ten_tho _ (by omega), ten_hun _ (by omega), ten_ten _ (by omega), ten_one _ (by omega), rom_split n, (hun_ok (n % 1000) (by omega)).2, (ten_ok (n % 1000 % 100) (by omega)).2,
    show n % 1000 / 100 * 100 = n / 100 % 10 * 100 by omega, show n % 1000 % 100 / 10 * 10 = n / 10 % 10 * 10 by omega, show n % 1000 % 100 % 10 = n % 10 by omega]
  simp
theorem rom_ten_up (n : Nat) (h : n ≤ 3999) : tenL (n / 1000 % 10) [77] [] [] ++ tenL (n / 100 % 10) [67] [68] [77] ++ tenL (n / 10 % 10) [88] [76] [67] ++ tenL (n % 10) [73] [86] [88] = romC true n := by
  have e : romC true n = (romL n).map Lib.upperB := rfl
  rw [e, ← rom_ten n h]
  simp only [List.map_append, ten_map]
  rfl
theorem romLow (n : Nat) (w : World) (h1 : 1 ≤ n) (h : n ≤ 3999) :
    Calls Tryd.prog 21 #[.int .i64 n, .string ⟨#[105, 118, 120, 108, 99, 100, 109]⟩] w fun e w' => e = .returned (.string ⟨(romL n).toArray⟩) ∧ Below w.heap.size w w' :=
  (rroman_any n [105, 118, 120, 108, 99, 100, 109] w h (by decide) (by decide)).mono fun _ _ hh => ⟨hh.1.trans (ret_str (rom_ten n h)), hh.2⟩
theorem romUp (n : Nat) (w : World) (h1 : 1 ≤ n) (h : n ≤ 3999) :
    Calls Tryd.prog 21 #[.int .i64 n, .string ⟨#[73, 86, 88, 76, 67, 68, 77]⟩] w fun e w' => e = .returned (.string ⟨(romC true n).toArray⟩) ∧ Below w.heap.size w w' :=
  (rroman_any n [73, 86, 88, 76, 67, 68, 77] w h (by decide) (by decide)).mono fun _ _ hh => ⟨hh.1.trans (ret_str (rom_ten_up n h)), hh.2⟩

set_option maxHeartbeats 1000000 in
theorem rtextN_any (n style : Int) (m : Nat) (w : World) (hm : cCut n = m) (hm9 : m ≤ 999999) :
    Calls Tryd.prog 14 #[.int .i64 n, .int .i64 style] w fun e w' => e = .returned (.string ⟨(cTextN m style).toArray⟩) ∧ Below w.heap.size w w' := by
  have HM := Lib.hid hm
  clear hm
  by_cases h2 : style = 2
  · subst h2
    by_cases h1 : 1 ≤ m
    · by_cases h3 : m ≤ 3999
      · have HD := Lib.hid (show cTextN m 2 = romC true m by rw [cTextN, if_pos ⟨rfl, h1, h3⟩])
        go_enter Tryd.func14, Tryd.ntmps14
        go_wp2_with (first | (go_at_call 12; refine (rcut_any _ _).mono ?_; rintro e w' ⟨rfl, rfl⟩; rw [HM.out]) | (go_at_call 21; refine (romUp m _ h1 h3).mono ?_; rintro e w1 ⟨rfl, hb⟩))
        go_ret
        exact ⟨ret_str HD.out.symm, hb⟩
      · have HD := Lib.hid (show cTextN m 2 = Lib.decDigits m by rw [cTextN, if_neg (by omega), if_neg (by omega), if_neg (by omega)])
        go_enter Tryd.func14, Tryd.ntmps14
        go_wp2_with (first | (go_at_call 12; refine (rcut_any _ _).mono ?_; rintro e w' ⟨rfl, rfl⟩; rw [HM.out]) | (go_at_call 23; refine (rdigits_any m _ hm9).mono ?_; rintro e w1 ⟨rfl, hb⟩))
        go_ret
        exact ⟨ret_str HD.out.symm, hb⟩
    · have HD := Lib.hid (show cTextN m 2 = Lib.decDigits m by rw [cTextN, if_neg (by omega), if_neg (by omega), if_neg (by omega)])
      have h0 : (m : Int) < 1 := by omega
      go_enter Tryd.func14, Tryd.ntmps14
      go_wp2_with (first | (go_at_call 12; refine (rcut_any _ _).mono ?_; rintro e w' ⟨rfl, rfl⟩; rw [HM.out]) | (go_at_call 23; refine (rdigits_any m _ hm9).mono ?_; rintro e w1 ⟨rfl, hb⟩))
      go_ret
      exact ⟨ret_str HD.out.symm, hb⟩
  · have e2 : (style == 2) = false := by simpa using h2
    by_cases h1' : style = 1
    · subst h1'
      by_cases h1 : 1 ≤ m
      · by_cases h3 : m ≤ 3999
        · have HD := Lib.hid (show cTextN m 1 = romL m by rw [cTextN, if_neg (by omega), if_pos ⟨rfl, h1, h3⟩]; rfl)
          go_enter Tryd.func14, Tryd.ntmps14
          go_wp2_with (first | (go_at_call 12; refine (rcut_any _ _).mono ?_; rintro e w' ⟨rfl, rfl⟩; rw [HM.out]) | (go_at_call 21; refine (romLow m _ h1 h3).mono ?_; rintro e w1 ⟨rfl, hb⟩))
          go_ret
          exact ⟨ret_str HD.out.symm, hb⟩
        · have HD := Lib.hid (show cTextN m 1 = Lib.decDigits m by rw [cTextN, if_neg (by omega), if_neg (by omega), if_neg (by omega)])
          go_enter Tryd.func14, Tryd.ntmps14
          go_wp2_with (first | (go_at_call 12; refine (rcut_any _ _).mono ?_; rintro e w' ⟨rfl, rfl⟩; rw [HM.out]) | (go_at_call 23; refine (rdigits_any m _ hm9).mono ?_; rintro e w1 ⟨rfl, hb⟩))
          go_ret
          exact ⟨ret_str HD.out.symm, hb⟩
      · have HD := Lib.hid (show cTextN m 1 = Lib.decDigits m by rw [cTextN, if_neg (by omega), if_neg (by omega), if_neg (by omega)])
        have h0 : (m : Int) < 1 := by omega
        go_enter Tryd.func14, Tryd.ntmps14
        go_wp2_with (first | (go_at_call 12; refine (rcut_any _ _).mono ?_; rintro e w' ⟨rfl, rfl⟩; rw [HM.out]) | (go_at_call 23; refine (rdigits_any m _ hm9).mono ?_; rintro e w1 ⟨rfl, hb⟩))
        go_ret
        exact ⟨ret_str HD.out.symm, hb⟩
    · have e1 : (style == 1) = false := by simpa using h1'
      by_cases h3' : style = 3
      · subst h3'
        by_cases h1 : 1 ≤ m
        · have HD := Lib.hid (show cTextN m 3 = letL m by rw [cTextN, if_neg (by omega), if_neg (by omega), if_pos ⟨rfl, h1⟩])
          go_enter Tryd.func14, Tryd.ntmps14
          go_wp2_with (first | (go_at_call 12; refine (rcut_any _ _).mono ?_; rintro e w' ⟨rfl, rfl⟩; rw [HM.out]) | (go_at_call 22; refine (rletters_any m _ h1 hm9).mono ?_; rintro e w1 ⟨rfl, hb⟩))
          go_ret
          exact ⟨ret_str HD.out.symm, hb⟩
        · have HD := Lib.hid (show cTextN m 3 = Lib.decDigits m by rw [cTextN, if_neg (by omega), if_neg (by omega), if_neg (by omega)])
          have h0 : (m : Int) < 1 := by omega
          go_enter Tryd.func14, Tryd.ntmps14
          go_wp2_with (first | (go_at_call 12; refine (rcut_any _ _).mono ?_; rintro e w' ⟨rfl, rfl⟩; rw [HM.out]) | (go_at_call 23; refine (rdigits_any m _ hm9).mono ?_; rintro e w1 ⟨rfl, hb⟩))
          go_ret
          exact ⟨ret_str HD.out.symm, hb⟩
      · have e3 : (style == 3) = false := by simpa using h3'
        have HD := Lib.hid (show cTextN m style = Lib.decDigits m by rw [cTextN, if_neg (by omega), if_neg (by omega), if_neg (by omega)])
        go_enter Tryd.func14, Tryd.ntmps14
        go_wp2_with (first | (go_at_call 12; refine (rcut_any _ _).mono ?_; rintro e w' ⟨rfl, rfl⟩; rw [HM.out]) | (go_at_call 23; refine (rdigits_any m _ hm9).mono ?_; rintro e w1 ⟨rfl, hb⟩))
        go_ret
        exact ⟨ret_str HD.out.symm, hb⟩
end Go.Proofs.YtglhcnhenhfkiaaDoor
