/-
  The walk of MacroGroups: for every input it returns true; old memory stays.
-/
import Derived.Test.YtjneeikkakekjaaDoorNT
namespace Go.Proofs.YtjneeikkakekjaaDoor
open Go.RowKit

theorem cut_mild (n : Nat) (ts : List Tok) : ∀ t ∈ cutL n ts, t.2.length ≤ 40 := fun t ht => by
  unfold cutL at ht
  obtain ⟨x, _, rfl⟩ := List.mem_map.1 ht
  show (x.2.take 40).length ≤ 40
  rw [List.length_take]; omega
theorem cut_len (n : Nat) (ts : List Tok) : (cutL n ts).length ≤ n := by unfold cutL; rw [List.length_map, List.length_take]; omega
theorem args_bounds (l : List Tok) (a n : Int) : (argsE l a n).1.length ≤ 9 ∧ ∀ y ∈ (argsE l a n).1, y.length ≤ l.length := by
  by_cases h : 0 ≤ a ∧ a ≤ (l.length : Int)
  · by_cases h2 : 0 ≤ n ∧ n ≤ 9
    · obtain ⟨a, rfl⟩ : ∃ k : Nat, a = k := ⟨a.toNat, by omega⟩
      obtain ⟨n, rfl⟩ : ∃ k : Nat, n = k := ⟨n.toNat, by omega⟩
      rw [argsE_in (by omega) (by omega)]
      cases hg : argsG l n a with
      | none => simp [argsP]
      | some x =>
        obtain ⟨h1, h2, h3⟩ := args_le hg (by omega)
        simp only [argsP]
        exact ⟨by omega, h3⟩
    · rw [argsE_out (.inr (by omega))]; simp
  · rw [argsE_out (.inl h)]; simp
theorem same_eq (A B : Option Addr) (c d : Nat) (ts : List Tok) (w : World) (hr : Rd w A ts) (hq : Rd w B ts) (hl : ts.length ≤ 200000) :
    Calls Tryd.prog 20 #[.slice A ts.length c, .slice B ts.length d] w fun e w' => e = .returned (.bool true) ∧ Below w.heap.size w w' :=
  (same_any A B c d ts ts w hr hq hl hl).mono fun _ _ ⟨h1, n, h2⟩ => ⟨h1.trans (ret_bool (decide_eq_true rfl)), by subst h2; exact drewN_below w n⟩
theorem lists_eq (A B : Option Addr) (c d : Nat) (ll : List (List Tok)) (w : World) (hr : RdL w A ll) (hq : RdL w B ll) (hc : ll.length ≤ 10000) (hf : Hid (∀ l ∈ ll, l.length ≤ 100000)) :
    Calls Tryd.prog 15 #[.slice A ll.length c, .slice B ll.length d] w fun e w' => e = .returned (.bool true) ∧ Below w.heap.size w w' :=
  (rlists_any A B c d ll ll w hr hq hc hc (Lib.hid fun l hl => by have := hf.out l hl; omega) (Lib.hid fun l hl => by have := hf.out l hl; omega)).mono fun _ _ ⟨h1, n, h2⟩ => ⟨h1.trans (ret_bool (decide_eq_true rfl)), by subst h2; exact drewN_below w n⟩
set_option maxRecDepth 100000 in
set_option maxHeartbeats 8000000 in
theorem macroGroups_walk (A : Option Addr) (c : Nat) (xs : List Tok) (x y : Int) (w : World) (hr : Rd w A xs) (hl : xs.length ≤ 9223372036854775807) (hfit : Hid (∀ t ∈ xs, t.2.length ≤ 9223372036854775807)) :
    Calls Tryd.prog 3 #[.slice A xs.length c, .int .i64 x, .int .i64 y] w fun e w' => e = .returned (.bool true) ∧ Below w.heap.size w w' := by
  have CT := Lib.hid (lcut_any A c 60 xs w hr hl hfit (by omega))
  have h60 := cut_len 60 xs
  generalize cutL 60 xs = cs at *
  obtain ⟨hb1, hb2⟩ := args_bounds cs x y
  have CG := Lib.hid (fun A c w (hr : Rd w A cs) (h1 : cs.length ≤ c) (h2 : c ≤ 9223372036854775807) => group_any A c cs x w hr (by omega) h1 h2)
  have CR := Lib.hid (fun A c w (hr : Rd w A cs) => rgroup_any A c cs x w hr (by omega))
  have AG := Lib.hid (fun A c w (hr : Rd w A cs) (h1 : cs.length ≤ c) (h2 : c ≤ 9223372036854775807) => args_any A c cs x y w hr (by omega) h1 h2)
  have AR := Lib.hid (fun A c w (hr : Rd w A cs) (h1 : cs.length ≤ c) (h2 : c ≤ 9223372036854775807) => rargs_any A c cs x y w hr (by omega) h1 h2)
  generalize argsE cs x y = r at *
  generalize grpE cs x = g at *
  obtain ⟨ll, p, e0⟩ := r
  obtain ⟨g1, g2⟩ := g
  simp only at hb1 hb2
  have HF := Lib.hid (show ∀ l ∈ ll, l.length ≤ 100000 from fun l hl => by have := hb2 l hl; omega)
  have hl9 : ll.length ≤ 10000 := by omega
  have q1 : (g1 == g1) = true := by simp
  have q2 : (g2 == g2) = true := by simp
  have q3 : (p == p) = true := by simp
  have q4 : (e0 == e0) = true := by simp
  clear hb2 hb1
  go_enter Tryd.func3, Tryd.ntmps3
  go_wp2_with fail
  refine CT.out.mono ?_
  rintro e w1 ⟨A1, c1, rfl, ho, hb⟩
  obtain ⟨k1, k2, _⟩ := ho.cap
  have R1 := Lib.hid ho.rd
  have HB := Lib.hid hb
  clear hb ho CT
  go_wp2_with fail
  refine (CG.out A1 c1 _ R1.out k1 k2).mono ?_
  rintro e w2 ⟨rfl, hb⟩
  replace R1 := Lib.hid (R1.out.below hb)
  replace HB := Lib.hid (bch HB.out hb)
  clear hb CG
  go_wp2_with fail
  refine (refs_any A1 c1 cs _ R1.out (by omega)).mono ?_
  rintro e w3 ⟨A2, c2, rfl, ho, hb⟩
  replace R1 := Lib.hid (R1.out.below hb)
  replace HB := Lib.hid (bch HB.out hb)
  have R2 := Lib.hid ho.rd
  clear hb ho
  go_wp2_with fail
  refine (CR.out A2 c2 _ R2.out).mono ?_
  rintro e w4 ⟨rfl, rfl⟩
  clear CR R2
  go_wp2_with fail
  refine (AG.out A1 c1 _ R1.out k1 k2).mono ?_
  rintro e w5 ⟨A3, c3, rfl, ho, hb⟩
  replace R1 := Lib.hid (R1.out.below hb)
  replace HB := Lib.hid (bch HB.out hb)
  have R3 := Lib.hid ho.rd
  simp only at R3 ⊢
  clear hb ho AG
  go_wp2_with fail
  refine (refs_any A1 c1 cs _ R1.out (by omega)).mono ?_
  rintro e w6 ⟨A4, c4, rfl, ho, hb⟩
  replace R3 := Lib.hid (R3.out.below hb)
  replace HB := Lib.hid (bch HB.out hb)
  obtain ⟨k3, k4, _⟩ := ho.cap
  have R4 := Lib.hid ho.rd
  clear hb ho R1
  go_wp2_with fail
  refine (AR.out A4 c4 _ R4.out k3 k4).mono ?_
  rintro e w7 ⟨A5, c5, rfl, ho, hb⟩
  replace R3 := Lib.hid (R3.out.below hb)
  replace HB := Lib.hid (bch HB.out hb)
  have R5 := Lib.hid ho.rd
  simp only at R5 ⊢
  clear hb ho AR R4
  go_wp2_with fail
  refine (lists7_any A3 c3 ll _ R3.out hl9 HF).mono ?_
  rintro e w8 ⟨A6, c6, rfl, ho, hb⟩
  replace R5 := Lib.hid (R5.out.below hb)
  replace HB := Lib.hid (bch HB.out hb)
  have R6 := Lib.hid ho.rd
  clear hb ho R3
  go_wp2_with fail
  refine (lists_eq A6 A5 c6 c5 ll _ R6.out R5.out hl9 HF).mono ?_
  rintro e w9 ⟨rfl, hb⟩
  replace HB := Lib.hid (bch HB.out hb)
  clear hb R6 R5
  go_wp2_with fail
  refine (fixed_any _).mono ?_
  rintro e w10 ⟨rfl, hb⟩
  replace HB := Lib.hid (bch HB.out hb)
  clear hb
  go_wp2
  go_ret
  exact ⟨rfl, HB.out⟩
end Go.Proofs.YtjneeikkakekjaaDoor
