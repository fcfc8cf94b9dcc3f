/-
  Package macro: Args; the document's Args.
-/
import Derived.Test.YtjneeikkakekjaaDoorNB
namespace Go.Proofs.YtjneeikkakekjaaDoor
open Go.RowKit

/-- Lists, a place and an error. -/
def ArgsPost (t : TypeId) (w : World) (r : List (List Tok) × Int × Int) (e : Ending) (w' : World) : Prop :=
  ∃ A c, e = .returned (.tuple #[.slice A r.1.length c, .int .i64 r.2.1, .int .i64 r.2.2]) ∧ OwnL t w' w.heap.size A c r.1 ∧ Below w.heap.size w w'
theorem ownL_nil (t : TypeId) (w : World) (base : Nat) : OwnL t w base none 0 [] := ⟨[], ⟨rfl, .inl ⟨rfl, rfl⟩⟩, fun i l hi => by simp at hi⟩
theorem argsE_in {l : List Tok} {a n : Nat} (h : a ≤ l.length) (hn : n ≤ 9) : argsE l a n = argsP (argsG l n a) := by
  unfold argsE
  rw [if_neg (by omega)]
  rfl
theorem argsE_out {l : List Tok} {a n : Int} (h : ¬ (0 ≤ a ∧ a ≤ (l.length : Int)) ∨ n < 0 ∨ 9 < n) : argsE l a n = ([], 0, 1) := by
  unfold argsE; rw [if_pos (by omega)]
theorem within_len {l : List Tok} {a p : Nat} (h : p ≤ l.length) (h2 : a + 2 ≤ p) : (within l a p).length = p - 1 - (a + 1) := by
  unfold within
  rw [List.length_take, List.length_drop]; omega
theorem ret_three {a b c d e f : Value} (h1 : a = d) (h2 : b = e) (h3 : c = f) : Ending.returned (.tuple #[a, b, c]) = .returned (.tuple #[d, e, f]) := by rw [h1, h2, h3]
theorem within_le {l : List Tok} {a p : Nat} : (within l a p).length ≤ l.length := by
  unfold within; rw [List.length_take, List.length_drop]; omega
set_option maxRecDepth 100000 in
set_option maxHeartbeats 8000000 in
theorem args_any (A : Option Addr) (c : Nat) (ts : List Tok) (x y : Int) (w : World) (hr : Rd w A ts) (hl : ts.length ≤ 100000) (hcap : ts.length ≤ c) (hc63 : c ≤ 9223372036854775807) :
    Calls Tryd.prog 13 #[.slice A ts.length c, .int .i64 x, .int .i64 y] w (ArgsPost 22 w (argsE ts x y)) := by
  have CP := Lib.hid (place_any A c ts.length x w (by omega))
  have HO0 := Lib.hid (ownL_nil 22 w w.heap.size)
  have HBR := Lib.hid (Below.refl w.heap.size w)
  by_cases hx : 0 ≤ x ∧ x ≤ ts.length
  · rw [decide_eq_true hx] at CP
    by_cases hy1 : y < 0
    · rw [argsE_out (.inr (.inl hy1))]
      go_enter Tryd.func13, Tryd.ntmps13
      go_wp2_with fail
      refine CP.out.mono ?_
      rintro e w' ⟨rfl, rfl⟩
      go_wp2
      go_ret3
      exact ⟨none, 0, rfl, HO0.out, HBR.out⟩
    · by_cases hy2 : 9 < y
      · rw [argsE_out (.inr (.inr hy2))]
        go_enter Tryd.func13, Tryd.ntmps13
        go_wp2_with fail
        refine CP.out.mono ?_
        rintro e w' ⟨rfl, rfl⟩
        go_wp2
        go_ret3
        exact ⟨none, 0, rfl, HO0.out, HBR.out⟩
      · obtain ⟨a, rfl⟩ : ∃ a : Nat, x = a := ⟨x.toNat, by omega⟩
        obtain ⟨n, rfl⟩ : ∃ n : Nat, y = n := ⟨y.toNat, by omega⟩
        have ha : a ≤ ts.length := by omega
        have hn : n ≤ 9 := by omega
        rw [argsE_in ha hn]
        obtain ⟨G, hG⟩ : ∃ G, argsG ts n a = G := ⟨_, rfl⟩
        rw [hG]
        have HG := Lib.hid (show (argsG ts (n - 0) a).map (fun x => ([] ++ x.1, x.2)) = G by rw [← hG]; simp)
        clear hG hx
        go_enter Tryd.func13, Tryd.ntmps13
        go_wp2_with fail
        refine CP.out.mono ?_
        rintro e w' ⟨rfl, rfl⟩
        go_wp2_with fail
        go_loopw [26, 9, 1] (fun v26 v9 v1 wr => ∃ (j p : Nat) (C : Option Addr) (cc : Nat) (out : List (List Tok)), v26 = .int .i64 j ∧ v9 = .slice C out.length cc ∧ v1 = .int .i64 p ∧ j ≤ n ∧ p ≤ ts.length ∧ out.length ≤ j ∧ Hid ((argsG ts (n - j) p).map (fun x => (out ++ x.1, x.2)) = G) ∧ Hid (OwnL 22 wr w.heap.size C cc out) ∧ Hid (Below w.heap.size w wr)) (fun v26 _ _ _ => n - (intOf v26).toNat)
        case atStart => exact ⟨0, a, none, 0, [], rfl, rfl, rfl, Nat.zero_le _, ha, Nat.le_refl _, HG, HO0, HBR⟩
        case round =>
          clear HG HO0 HBR CP
          obtain ⟨j, p, C, cc, out, rfl, rfl, rfl, hj, hp, hout, HE, HO, HB⟩ := hrel
          by_cases hlt : j < n
          · have i1 : (j : Int) < (n : Int) := by omega
            have hrw := hr.below HB.out
            have C1 := Lib.hid (skip_any A c ts p wr hrw (by omega) hp)
            obtain ⟨hs1, hs2⟩ := skip_le hp
            obtain ⟨s, hs⟩ : ∃ s, skipN ts p = s := ⟨_, rfl⟩
            rw [hs] at C1 hs1 hs2
            have hE := HE.out
            rw [show n - j = (n - (j + 1)) + 1 by omega] at hE
            cases hgr : grpN ts s with
            | none =>
              have HN := Lib.hid (args_stop (by rw [hs]; exact hgr) hE)
              have HGR := Lib.hid (show grpE ts s = (0, 10) by rw [grpE_in hs2, hgr]; rfl)
              clear hgr hE hs HE hrw
              go_wp2_with fail
              refine C1.out.mono ?_
              rintro e w1 ⟨rfl, hb1⟩
              have C2 := Lib.hid (group_any A c ts s w1 ((hr.below HB.out).below hb1) (by omega) hcap hc63)
              rw [HGR.out] at C2
              have HB1 := Lib.hid (bch HB.out hb1)
              clear hb1 HB C1 HO
              go_wp2_with fail
              refine C2.out.mono ?_
              rintro e w2 ⟨rfl, hb2⟩
              have HB2 := Lib.hid (bch HB1.out hb2)
              clear hb2 HB1 C2
              go_wp2
              go_ret3
              rw [HN.out]
              exact ⟨none, 0, rfl, ownL_nil _ _ _, HB2.out⟩
            | some q =>
              obtain ⟨hq1, hq2, hq3, _⟩ := grp_some hgr
              have hst := args_step (by rw [hs]; exact hgr) hE
              rw [hs] at hst
              have hwl := within_len hq3 hq2
              have hpart := fun w => tok_part (A := A) (n := ts.length) (c := c) (l := s + 1) (h := q - 1) (by omega) (by omega) w
              rw [show ((s + 1 : Nat) : Int) = (s : Int) + 1 by omega, show ((q - 1 : Nat) : Int) = (q : Int) - 1 by omega] at hpart
              have hrp : Rd wr (cutS 2 A c (s + 1)) (within ts s q) := hrw.part (by omega) hcap
              obtain ⟨i, hi⟩ : ∃ i, within ts s q = i := ⟨_, rfl⟩
              have hil : i.length ≤ 100000 := by rw [← hi]; have := within_le (l := ts) (a := s) (p := q); omega
              rw [hi] at hst hwl hrp
              rw [← hwl] at hpart
              generalize cutS 2 A c (s + 1) = B at *
              generalize c - (s + 1) = d at *
              obtain ⟨o2, ho2⟩ : ∃ o2, out ++ [i] = o2 := ⟨_, rfl⟩
              rw [ho2] at hst
              have HN := Lib.hid hst
              have HYL := Lib.hid (show o2.length = out.length + 1 by rw [← ho2]; simp)
              have HY := Lib.hid ho2
              have HGR := Lib.hid (show grpE ts s = ((q : Int), 0) by rw [grpE_in hs2, hgr]; rfl)
              have HRP := Lib.hid hrp
              have HQ := Lib.hid hq3
              clear hgr hE hs HE hrw hst hrp hi ho2 hwl
              go_wp2_with fail
              refine C1.out.mono ?_
              rintro e w1 ⟨rfl, hb1⟩
              have C2 := Lib.hid (group_any A c ts s w1 ((hr.below HB.out).below hb1) (by omega) hcap hc63)
              rw [HGR.out] at C2
              have HB1 := Lib.hid (bch HB.out hb1)
              have HO1 := Lib.hid (HO.out.below hb1)
              have HR1 := Lib.hid (HRP.out.below hb1)
              clear hb1 HB C1 HO HRP
              go_wp2_with fail
              refine C2.out.mono ?_
              rintro e w2 ⟨rfl, hb2⟩
              have HB2 := Lib.hid (bch HB1.out hb2)
              have HO2 := Lib.hid (HO1.out.below hb2)
              have C3 := Lib.hid (fresh_any B i.length d i w2 (HR1.out.below hb2) rfl (by omega))
              clear hb2 HB1 C2 HO1 HR1
              go_wp2_with fail
              refine C3.out.mono ?_
              rintro e w3 ⟨B2, d2, rfl, ho3, hb3⟩
              have SB := bch hb3 (one_below w3 (.cells #[.slice B2 i.length d2] 22))
              have HO3 := Lib.hid (HO2.out.below SB)
              have HB3 := Lib.hid (bch HB2.out SB)
              have HR3 := Lib.hid (ho3.rd.below (one_below w3 (.cells #[.slice B2 i.length d2] 22)))
              have HF3 := Lib.hid (own_far ho3 HO2.out.lt)
              clear HO2 hb3 SB C3 ho3 HB2
              go_wp2_with (at_builtin; refine wpList_append_l 30 22 Tryd.underlying30 Tryd.infoL22 _ rfl _ _ rfl w.heap.size C cc out rfl HO3.out w3.heap.size B2 d2 i rfl (new_one _ _ _) HR3.out HF3.out (by omega) HB3.out.size o2 HY.out ?_; intro N2 nc2 w4 hown4 hb4)
              have HB4 := Lib.hid (HB3.out.trans hb4)
              have HO4 := Lib.hid hown4
              clear HO3 HB3 hb4 hown4
              go_roundw
              case rel => exact ⟨j + 1, q, N2, nc2, o2, by go_num, rfl, rfl, by omega, HQ.out, by have := HYL.out; omega, HN, HO4, HB4⟩
              case measure => simp [intOf]; omega
          · have hE := HE.out
            rw [show n - j = 0 by omega] at hE
            have HN := Lib.hid (args_end hE)
            have i1 : ¬ (j : Int) < (n : Int) := by omega
            clear hE HE
            go_wp2
            go_ret3
            rw [HN.out]
            exact ⟨C, cc, rfl, HO.out, HB.out⟩
  · rw [argsE_out (.inl hx)]
    rw [decide_eq_false hx] at CP
    clear hx
    go_enter Tryd.func13, Tryd.ntmps13
    go_wp2_with fail
    refine CP.out.mono ?_
    rintro e w' ⟨rfl, rfl⟩
    go_wp2
    go_ret3
    exact ⟨none, 0, rfl, HO0.out, HBR.out⟩
end Go.Proofs.YtjneeikkakekjaaDoor
