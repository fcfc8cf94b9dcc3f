/-
  Package macro: Args, each list in blocks that satisfy a predicate.
  Package expand: groups, digit.
  Package expand: open, include.
-/
import Derived.Test.YtmnbepapgghdaaaGreatK13
import Derived.Test.YtmnbepapgghdaaaGreatK06
import Derived.Test.YtmnbepapgghdaaaGreatK19
import Derived.Test.YtmnbepapgghdaaaGreatK23
namespace Go.Proofs.YtmnbepapgghdaaaGreat.Pq
open Go.RowKit

set_option maxRecDepth 100000 in
set_option maxHeartbeats 8000000 in
theorem args_any {P : Nat → Prop} (A : Option Addr) (c : Nat) (ts : List Tok) (x y : Int) (w : World) (hr : Rd w A ts) (hl : ts.length ≤ 100000) (hcap : ts.length ≤ c) (hc63 : c ≤ 9223372036854775807) (hP : Hid (∀ k, w.heap.size ≤ k → P k)) :
    Calls Tryz.prog 93 #[.slice A ts.length c, .int .i64 x, .int .i64 y] w (ArgsPost P 27 w (argsE ts x y)) := by
  have CP := Lib.hid (place_any A c ts.length x w (by omega))
  have HO0 := Lib.hid (ownL_nil (P := P) 27 w w.heap.size)
  have HBR := Lib.hid (Below.refl w.heap.size w)
  by_cases hx : 0 ≤ x ∧ x ≤ ts.length
  · rw [decide_eq_true hx] at CP
    by_cases hy1 : y < 0
    · rw [argsE_out (.inr (.inl hy1))]
      go_enter Tryz.func93, Tryz.ntmps93
      go_wp2_with fail
      refine CP.out.mono ?_
      rintro e w' ⟨rfl, rfl⟩
      go_wp2
      go_ret3
      exact ⟨none, 0, rfl, HO0.out, HBR.out⟩
    · by_cases hy2 : 9 < y
      · rw [argsE_out (.inr (.inr hy2))]
        go_enter Tryz.func93, Tryz.ntmps93
        go_wp2_with fail
        refine CP.out.mono ?_
        rintro e w' ⟨rfl, rfl⟩
        go_wp2
        go_ret3
        exact ⟨none, 0, rfl, HO0.out, HBR.out⟩
      · obtain ⟨a, rfl⟩ : ∃ a : Nat, x = a := ⟨x.toNat, by omega⟩
        obtain ⟨n, rfl⟩ : ∃ n : Nat, y = n := ⟨y.toNat, by omega⟩
        have ha : a ≤ ts.length := by omega
        have hn : n ≤ 9 := by omega
        rw [argsE_in ha hn]
        obtain ⟨G, hG⟩ : ∃ G, argsG ts n a = G := ⟨_, rfl⟩
        rw [hG]
        have HG := Lib.hid (show (argsG ts (n - 0) a).map (fun x => ([] ++ x.1, x.2)) = G by rw [← hG]; simp)
        clear hG hx
        go_enter Tryz.func93, Tryz.ntmps93
        go_wp2_with fail
        refine CP.out.mono ?_
        rintro e w' ⟨rfl, rfl⟩
        go_wp2_with fail
        go_loopw [26, 9, 1] (fun v26 v9 v1 wr => ∃ (j p : Nat) (C : Option Addr) (cc : Nat) (out : List (List Tok)), v26 = .int .i64 j ∧ v9 = .slice C out.length cc ∧ v1 = .int .i64 p ∧ j ≤ n ∧ p ≤ ts.length ∧ out.length ≤ j ∧ Hid ((argsG ts (n - j) p).map (fun x => (out ++ x.1, x.2)) = G) ∧ Hid (OwnL P 27 wr w.heap.size C cc out) ∧ Hid (Below w.heap.size w wr)) (fun v26 _ _ _ => n - (intOf v26).toNat)
        case atStart => exact ⟨0, a, none, 0, [], rfl, rfl, rfl, Nat.zero_le _, ha, Nat.le_refl _, HG, HO0, HBR⟩
        case round =>
          clear HG HO0 HBR CP
          obtain ⟨j, p, C, cc, out, rfl, rfl, rfl, hj, hp, hout, HE, HO, HB⟩ := hrel
          by_cases hlt : j < n
          · have i1 : (j : Int) < (n : Int) := by omega
            have hrw := hr.below HB.out
            have C1 := Lib.hid (skip_any A c ts p wr hrw (by omega) hp)
            obtain ⟨hs1, hs2⟩ := skip_le hp
            obtain ⟨s, hs⟩ : ∃ s, skipN ts p = s := ⟨_, rfl⟩
            rw [hs] at C1 hs1 hs2
            have hE := HE.out
            rw [show n - j = (n - (j + 1)) + 1 by omega] at hE
            cases hgr : grpN ts s with
            | none =>
              have HN := Lib.hid (args_stop (by rw [hs]; exact hgr) hE)
              have HGR := Lib.hid (show grpE ts s = (0, 10) by rw [grpE_in hs2, hgr]; rfl)
              clear hgr hE hs HE hrw
              go_wp2_with fail
              refine C1.out.mono ?_
              rintro e w1 ⟨rfl, hb1⟩
              have C2 := Lib.hid (group_any A c ts s w1 ((hr.below HB.out).below hb1) (by omega) hcap hc63)
              rw [HGR.out] at C2
              have HB1 := Lib.hid (bch HB.out hb1)
              clear hb1 HB C1 HO
              go_wp2_with fail
              refine C2.out.mono ?_
              rintro e w2 ⟨rfl, hb2⟩
              have HB2 := Lib.hid (bch HB1.out hb2)
              clear hb2 HB1 C2
              go_wp2
              go_ret3
              rw [HN.out]
              exact ⟨none, 0, rfl, ownL_nil _ _ _, HB2.out⟩
            | some q =>
              obtain ⟨hq1, hq2, hq3, _⟩ := grp_some hgr
              have hst := args_step (by rw [hs]; exact hgr) hE
              rw [hs] at hst
              have hwl := within_len hq3 hq2
              have hpart := fun w => tok_part (A := A) (n := ts.length) (c := c) (l := s + 1) (h := q - 1) (by omega) (by omega) w
              rw [show ((s + 1 : Nat) : Int) = (s : Int) + 1 by omega, show ((q - 1 : Nat) : Int) = (q : Int) - 1 by omega] at hpart
              have hrp : Rd wr (cutS 2 A c (s + 1)) (within ts s q) := hrw.part (by omega) hcap
              obtain ⟨i, hi⟩ : ∃ i, within ts s q = i := ⟨_, rfl⟩
              have hil : i.length ≤ 100000 := by rw [← hi]; have := within_le (l := ts) (a := s) (p := q); omega
              rw [hi] at hst hwl hrp
              rw [← hwl] at hpart
              generalize cutS 2 A c (s + 1) = B at *
              generalize c - (s + 1) = d at *
              obtain ⟨o2, ho2⟩ : ∃ o2, out ++ [i] = o2 := ⟨_, rfl⟩
              rw [ho2] at hst
              have HN := Lib.hid hst
              have HYL := Lib.hid (show o2.length = out.length + 1 by rw [← ho2]; simp)
              have HY := Lib.hid ho2
              have HGR := Lib.hid (show grpE ts s = ((q : Int), 0) by rw [grpE_in hs2, hgr]; rfl)
              have HRP := Lib.hid hrp
              have HQ := Lib.hid hq3
              clear hgr hE hs HE hrw hst hrp hi ho2 hwl
              go_wp2_with fail
              refine C1.out.mono ?_
              rintro e w1 ⟨rfl, hb1⟩
              have C2 := Lib.hid (group_any A c ts s w1 ((hr.below HB.out).below hb1) (by omega) hcap hc63)
              rw [HGR.out] at C2
              have HB1 := Lib.hid (bch HB.out hb1)
              have HO1 := Lib.hid (HO.out.below hb1)
              have HR1 := Lib.hid (HRP.out.below hb1)
              clear hb1 HB C1 HO HRP
              go_wp2_with fail
              refine C2.out.mono ?_
              rintro e w2 ⟨rfl, hb2⟩
              have HB2 := Lib.hid (bch HB1.out hb2)
              have HO2 := Lib.hid (HO1.out.below hb2)
              have C3 := Lib.hid (fresh_any B i.length d i w2 (HR1.out.below hb2) rfl (by omega))
              clear hb2 HB1 C2 HO1 HR1
              go_wp2_with fail
              refine C3.out.mono ?_
              rintro e w3 ⟨B2, d2, rfl, ho3, hb3⟩
              have SB := bch hb3 (one_below w3 (.cells #[.slice B2 i.length d2] 27))
              have HO3 := Lib.hid (HO2.out.below SB)
              have HB3 := Lib.hid (bch HB2.out SB)
              have HR3 := Lib.hid (ho3.rd.below (one_below w3 (.cells #[.slice B2 i.length d2] 27)))
              have HF3 := Lib.hid (own_far ho3 HO2.out.lt fun k hk => hP.out k (Nat.le_trans HB2.out.size hk))
              clear HO2 hb3 SB C3 ho3 HB2
              go_wp2_with (at_builtin; refine wpList_append_l 129 27 Tryz.underlying129 Tryz.infoL27 _ rfl _ _ rfl w.heap.size C cc out rfl HO3.out w3.heap.size B2 d2 i rfl (new_one _ _ _) HR3.out HF3.out (by omega) HB3.out.size o2 HY.out ?_; intro N2 nc2 w4 hown4 hb4)
              have HB4 := Lib.hid (HB3.out.trans hb4)
              have HO4 := Lib.hid hown4
              clear HO3 HB3 hb4 hown4
              go_roundw
              case rel => exact ⟨j + 1, q, N2, nc2, o2, by go_num, rfl, rfl, by omega, HQ.out, by have := HYL.out; omega, HN, HO4, HB4⟩
              case measure => simp [intOf]; omega
          · have hE := HE.out
            rw [show n - j = 0 by omega] at hE
            have HN := Lib.hid (args_end hE)
            have i1 : ¬ (j : Int) < (n : Int) := by omega
            clear hE HE
            go_wp2
            go_ret3
            rw [HN.out]
            exact ⟨C, cc, rfl, HO.out, HB.out⟩
  · rw [argsE_out (.inl hx)]
    rw [decide_eq_false hx] at CP
    clear hx
    go_enter Tryz.func93, Tryz.ntmps93
    go_wp2_with fail
    refine CP.out.mono ?_
    rintro e w' ⟨rfl, rfl⟩
    go_wp2
    go_ret3
    exact ⟨none, 0, rfl, HO0.out, HBR.out⟩
end Go.Proofs.YtmnbepapgghdaaaGreat.Pq

namespace Go.Proofs.YtmnbepapgghdaaaGreat
open Go.RowKit

/-! ### groups from a place on are groups of what is to come -/
theorem grp_from (l : List Tok) (a b : Nat) : grpN l (a + b) = (grpN (l.drop a) b).map (· + a) := by
  unfold grpN
  rw [List.drop_drop]
  cases l.drop (a + b) with
  | nil => rfl
  | cons t r =>
    simp only
    split
    · rw [Option.map_map]
      congr 1
      funext x
      simp only [Function.comp]
      omega
    · rfl
theorem skip_from (l : List Tok) (a b : Nat) : skipN l (a + b) = skipN (l.drop a) b + a := by
  unfold skipN
  rw [List.drop_drop]
  omega
theorem within_from (l : List Tok) (a b p : Nat) : within l (b + a) (p + a) = within (l.drop a) b p := by
  unfold within
  rw [List.drop_drop]
  congr 1
  · omega
  · congr 1; omega
theorem args_from (l : List Tok) (a : Nat) : ∀ (n b : Nat), argsG l n (b + a) = (argsG (l.drop a) n b).map fun x => (x.1, x.2 + a)
  | 0, b => rfl
  | n + 1, b => by
    unfold argsG
    rw [Nat.add_comm b a, skip_from, Nat.add_comm (skipN (l.drop a) b) a, grp_from]
    cases grpN (l.drop a) (skipN (l.drop a) b) with
    | none => rfl
    | some p =>
      simp only [Option.map_some]
      rw [args_from l a n p, Option.map_map, Option.map_map]
      congr 1
      funext x
      simp only [Function.comp]
      rw [Nat.add_comm a, within_from]
theorem args_to (l : List Tok) (a n : Nat) : argsG l n a = (argsG (l.drop a) n 0).map fun x => (x.1, x.2 + a) := by
  have := args_from l a n 0
  rwa [Nat.zero_add] at this
theorem wordE_of (l : List Tok) : wordE l = match wordO l with | some s => (s, true) | none => ([], false) := by
  match l with
  | [] => rfl
  | [t] =>
    show (if t.1 = 1 then (t.2, true) else ([], false)) = match (if t.1 = 1 then some t.2 else none) with | some s => (s, true) | none => ([], false)
    by_cases h : t.1 = 1
    · simp only [if_pos h]
    · simp only [if_neg h]
  | a :: b :: r => rfl
/-- The groups; the Word that the first one is; the place behind them. -/
def GroupsPost (w : World) (l : List Tok) (at_ m : Nat) (en : Ending) (w' : World) : Prop :=
  (argsW l m = none ∧ en = .returned (.tuple #[.string ⟨#[]⟩, .slice none 0 0, .int .i64 0, errV (some 10)]) ∧ Below w.heap.size w w') ∨
  ∃ x s p A c, argsW l m = some (x, s, p) ∧ en = .returned (.tuple #[.string ⟨s.toArray⟩, .slice A x.length c, .int .i64 ((p : Int) + (at_ : Int)), errV none]) ∧ Pq.OwnL (fun b => w.heap.size ≤ b) 27 w' w.heap.size A c x ∧ Below w.heap.size w w'
theorem argsW_none {l : List Tok} {n : Nat} (h : argsG l n 0 = none) : argsW l n = none := by unfold argsW; rw [h]
theorem argsW_word {l : List Tok} {n : Nat} {x : List (List Tok)} {p : Nat} (h : argsG l n 0 = some (x, p)) (hw : wordO (x.headD []) = none) : argsW l n = none := by unfold argsW; rw [h]; simp only [hw]
theorem argsW_yes {l : List Tok} {n : Nat} {x : List (List Tok)} {p : Nat} {s : By} (h : argsG l n 0 = some (x, p)) (hw : wordO (x.headD []) = some s) : argsW l n = some (x, s, p) := by unfold argsW; rw [h]; simp only [hw]
theorem results_tmp4 {fn : Func} {a b c d : Tmp} (h : fn.results = #[.tmp a, .tmp b, .tmp c, .tmp d]) (tmps : Array Value) (P : Program) (w : World) :
    (results fn tmps).run P w = .ok (.tuple #[tmps.getD a undef, tmps.getD b undef, tmps.getD c undef, tmps.getD d undef]) w := by
  simp [results, h]
/-- What Args answers. -/
def ArgsR (P : Nat → Prop) (w : World) (r : List (List Tok) × Int × Int) (v : Value) (w' : World) : Prop :=
  ∃ A c, v = .tuple #[.slice A r.1.length c, .int .i64 r.2.1, .int .i64 r.2.2] ∧ Pq.OwnL P 27 w' w.heap.size A c r.1 ∧ Below w.heap.size w w'
theorem args_r {P : Nat → Prop} {w : World} {r : List (List Tok) × Int × Int} {f : FuncId} {xs : Array Value} (h : Calls Tryz.prog f xs w (Pq.ArgsPost P 27 w r)) : Calls Tryz.prog f xs w fun e w' => ∃ v, e = .returned v ∧ ArgsR P w r v w' :=
  h.mono fun _ _ ⟨A, c, q1, q2, q3⟩ => ⟨_, q1, A, c, rfl, q2, q3⟩
set_option maxRecDepth 100000 in
set_option maxHeartbeats 4000000 in
theorem xgroups_any (k : Xk) (e : Ex) (n m : Nat) (hm : 1 ≤ m ∧ m ≤ 9) (w : World) (s : Xs) (h : XR k w s e) :
    Calls Tryz.prog 72 #[.pointer (some ⟨k.p, 0, none⟩), .int .i64 m] w (GroupsPost w e.inp s.at_ m) := by
  have c6 : w.cell? ⟨k.p, 6, none⟩ = some (.slice s.TA s.full.length s.tc) := h.cell 6
  have c7 : w.cell? ⟨k.p, 7, none⟩ = some (.int .i64 s.at_) := h.cell 7
  have d6 : w.drew.cell? ⟨k.p, 6, none⟩ = some (.slice s.TA s.full.length s.tc) := c6
  have d7 : w.drew.cell? ⟨k.p, 7, none⟩ = some (.int .i64 s.at_) := c7
  have hal := h.atl
  have hfl := h.flen
  have hcap := h.toks.cap
  have hb0 := below_drew w
  have C := Pq.args_any (P := fun b => w.heap.size ≤ b) s.TA s.tc s.full s.at_ m w.drew h.toks.rd (by omega) hcap.1 hcap.2.1 (Lib.hid fun j hj => hj)
  rw [argsE_in hal hm.2, args_to s.full s.at_ m, h.inp] at C
  have HB0 := Lib.hid hb0
  clear hcap hb0
  cases hg : argsG e.inp m 0 with
  | none =>
    rw [hg] at C
    have C : Calls Tryz.prog 93 _ w.drew (Pq.ArgsPost (fun b => w.heap.size ≤ b) 27 w.drew ([], 0, 10)) := C
    have C := Lib.hid C
    have HN := Lib.hid (argsW_none hg)
    clear h hg
    go_enter Tryz.func72, Tryz.ntmps72
    go_wp2_with fail
    go_region_law (refine step_call w.drew (by rfl) 93 _ _ (by rfl) #[.slice s.TA s.full.length s.tc, .int .i64 s.at_, .int .i64 m] (by rfl) (enter93 _ _) (args_r C.out) ?_
                   rintro v w1 ⟨A, c, rfl, ho, hb⟩)
    all_goals
      have HB := Lib.hid (bch HB0.out hb)
      clear ho hb
      go_wp2
      (try simp only [Exit.inBlock, Exit.then])
      refine bodyPost_ret (results_tmp4 rfl _ _ _) rfl ?_
      exact .inl ⟨HN.out, rfl, HB.out⟩
  | some y =>
    obtain ⟨x, p⟩ := y
    rw [hg] at C
    have C : Calls Tryz.prog 93 _ w.drew (Pq.ArgsPost (fun b => w.heap.size ≤ b) 27 w.drew (x, ((p + s.at_ : Nat) : Int), 0)) := C
    have ep : ((p + s.at_ : Nat) : Int) = (p : Int) + (s.at_ : Int) := by omega
    rw [ep] at C
    have C := Lib.hid C
    obtain ⟨l1, l2, l3⟩ := args_le hg (Nat.zero_le _)
    have hx0 : 0 < x.length := by have : x.length = m := l1; omega
    obtain ⟨y, hy⟩ : ∃ y, x[0]? = some y := ⟨_, List.getElem?_eq_getElem hx0⟩
    have hyl : y.length ≤ 200000 := by have := l3 y (List.mem_of_getElem? hy); have : e.inp.length ≤ s.full.length := by rw [← h.inp, List.length_drop]; omega
                                       omega
    have hhead : x.headD [] = y := by
      cases x with
      | nil => simp at hx0
      | cons z r => simp at hy; simpa using hy
    have HG := Lib.hid hg
    have HY := Lib.hid hy
    have HH := Lib.hid hhead
    have i0 : (0 : Int) < (x.length : Int) := by omega
    have W := Lib.hid (wordE_of y)
    clear h hg hy hhead l1 l2 l3
    go_enter Tryz.func72, Tryz.ntmps72
    go_wp2_with fail
    go_region_law (refine step_call w.drew (by rfl) 93 _ _ (by rfl) #[.slice s.TA s.full.length s.tc, .int .i64 s.at_, .int .i64 m] (by rfl) (enter93 _ _) (args_r C.out) ?_
                   rintro v w1 ⟨A, c, rfl, ho, hb⟩)
    all_goals
      have HB := Lib.hid (bch HB0.out hb)
      have HO := Lib.hid ho
      obtain ⟨b, o, rfl, hc⟩ := ho.rd hx0
      obtain ⟨B, d, c1, hr⟩ := hc 0 y HY.out
      rw [Nat.add_zero] at c1
      have C2 := Lib.hid (word7_any B d y w1 hr hyl)
      rw [W.out] at C2
      clear ho hb hc hr
      cases hw : wordO y with
      | none =>
        rw [hw] at C2
        have HN := Lib.hid (argsW_word HG.out (by rw [HH.out]; exact hw))
        clear hw
        go_wp2_with fail
        refine C2.out.mono ?_
        rintro en w2 ⟨rfl, hb2⟩
        have HB2 := Lib.hid (bch HB.out hb2)
        clear hb2
        go_wp2
        (try simp only [Exit.inBlock, Exit.then])
        refine bodyPost_ret (results_tmp4 rfl _ _ _) rfl ?_
        exact .inl ⟨HN.out, rfl, HB2.out⟩
      | some q =>
        rw [hw] at C2
        have HN := Lib.hid (argsW_yes HG.out (by rw [HH.out]; exact hw))
        clear hw
        go_wp2_with fail
        refine C2.out.mono ?_
        rintro en w2 ⟨rfl, hb2⟩
        have HB2 := Lib.hid (bch HB.out hb2)
        have HO2 := Lib.hid (HO.out.below hb2)
        clear hb2
        go_wp2
        (try simp only [Exit.inBlock, Exit.then])
        refine bodyPost_ret (results_tmp4 rfl _ _ _) rfl ?_
        exact .inr ⟨x, q, p, _, c, HN.out, rfl, HO2.out, HB2.out⟩
theorem digO_of (l : List Tok) : digO l = match wordO l with
    | some s => if s.length ≠ 1 ∨ (s.headD 0).toNat < 48 ∨ 57 < (s.headD 0).toNat then none else some (((s.headD 0).toNat : Int) - 48)
    | none => none := by
  unfold digO
  cases wordO l with
  | none => rfl
  | some s =>
    match s with
    | [] => simp
    | [c] =>
      simp only [List.length_singleton, ne_eq, not_true_eq_false, false_or, List.headD_cons]
      split
      · rw [if_neg (by omega)]
      · rw [if_pos (by omega)]
    | a :: b :: r => simp
set_option maxRecDepth 100000 in
set_option maxHeartbeats 4000000 in
theorem xdigit_any (A : Option Addr) (c : Nat) (l : List Tok) (w : World) (hr : Rd w A l) (hl : l.length ≤ 200000) (hz : ∀ t ∈ l, t.2.length ≤ 4000) :
    Calls Tryz.prog 73 #[.slice A l.length c] w fun en w' => (∃ v : Int, en = .returned (.tuple #[.int .i64 v, .bool (digO l).isSome]) ∧ ∀ d, digO l = some d → v = d) ∧ Below w.heap.size w w' := by
  have C := word7_any A c l w hr hl
  rw [wordE_of] at C
  have HD := Lib.hid (digO_of l)
  cases hw : wordO l with
  | none =>
    rw [hw] at C
    have C := Lib.hid C
    have HN := Lib.hid (show digO l = none by rw [HD.out, hw])
    clear hw hr
    go_enter Tryz.func73, Tryz.ntmps73
    go_wp2_with fail
    refine C.out.mono ?_
    rintro en w1 ⟨rfl, hb⟩
    go_wp2
    go_ret2
    exact ⟨⟨0, by rw [HN.out]; rfl, fun d hd => by rw [HN.out] at hd; cases hd⟩, hb⟩
  | some s =>
    rw [hw] at C HD
    have C := Lib.hid C
    have hs : s.length ≤ 4000 := by
      unfold wordO at hw
      split at hw
      · split at hw
        · cases hw; exact hz _ (by simp)
        · cases hw
      · cases hw
    simp only at HD
    clear hw hr hz
    by_cases h1 : s.length = 1
    · match s, h1 with
      | [u], _ =>
        simp only [List.length_singleton, ne_eq, not_true_eq_false, false_or, List.headD_cons] at HD
        have hb0 : (ByteArray.mk #[u])[0]'(by show 0 < 1; omega) = u := rfl
        have hxl : u.toNat ≤ 255 := by have := u.toNat_lt; omega
        by_cases h2 : (u.toNat : Int) < 48
        · have HN := Lib.hid (show digO l = none by rw [HD.out, if_pos (by omega)])
          go_enter Tryz.func73, Tryz.ntmps73
          go_wp2_with fail
          refine C.out.mono ?_
          rintro en w1 ⟨rfl, hb⟩
          go_wp2
          go_ret2
          exact ⟨⟨0, by rw [HN.out]; rfl, fun d hd => by rw [HN.out] at hd; cases hd⟩, hb⟩
        · by_cases h3 : 57 < (u.toNat : Int)
          · have HN := Lib.hid (show digO l = none by rw [HD.out, if_pos (by omega)])
            go_enter Tryz.func73, Tryz.ntmps73
            go_wp2_with fail
            refine C.out.mono ?_
            rintro en w1 ⟨rfl, hb⟩
            go_wp2
            go_ret2
            exact ⟨⟨0, by rw [HN.out]; rfl, fun d hd => by rw [HN.out] at hd; cases hd⟩, hb⟩
          · have HN := Lib.hid (show digO l = some ((u.toNat : Int) - 48) by rw [HD.out, if_neg (by omega)])
            go_enter Tryz.func73, Tryz.ntmps73
            go_wp2_with fail
            refine C.out.mono ?_
            rintro en w1 ⟨rfl, hb⟩
            go_wp2
            go_ret2
            exact ⟨⟨(u.toNat : Int) - 48, by rw [HN.out]; rfl, fun d hd => by rw [HN.out] at hd; cases hd; rfl⟩, hb⟩
    · have q : ((s.length : Int) != 1) = true := by simp; omega
      have HN := Lib.hid (show digO l = none by rw [HD.out, if_pos (.inl h1)])
      clear h1
      go_enter Tryz.func73, Tryz.ntmps73
      go_wp2_with fail
      refine C.out.mono ?_
      rintro en w1 ⟨rfl, hb⟩
      go_wp2
      go_ret2
      exact ⟨⟨0, by rw [HN.out]; rfl, fun d hd => by rw [HN.out] at hd; cases hd⟩, hb⟩
end Go.Proofs.YtmnbepapgghdaaaGreat

namespace Go.Proofs.YtmnbepapgghdaaaGreat
open Go.RowKit

/-- What is wrong, if anything is; what is noted of that name behind it. -/
def ErrPost (k : Xk) (w : World) (n : Nat) (nm : By) (g : Ex) (en : Ending) (w' : World) : Prop :=
  ∃ e1 o, en = .returned (errV o) ∧ errO o ∧ Below k.base w w' ∧ XW k w' e1 n ∧ noted e1 nm o = g ∧ (o = some 10 → Below w.heap.size w w')
/-- The same, where groups were there. -/
def OpenPost (k : Xk) (w : World) (n : Nat) (nm : By) (g : Ex) (en : Ending) (w' : World) : Prop :=
  ∃ e1 o, en = .returned (errV o) ∧ errO o ∧ Below k.base w w' ∧ XW k w' e1 n ∧ noted e1 nm o = g ∧ o ≠ some 10
/-- A name, and what is wrong; what is noted behind it, if the command's name is that. -/
def CmdPost (k : Xk) (w : World) (n : Nat) (s : By) (g : Ex) (en : Ending) (w' : World) : Prop :=
  ∃ e1 nm o, en = .returned (.tuple #[.string ⟨nm.toArray⟩, errV o]) ∧ errO o ∧ Below k.base w w' ∧ XW k w' e1 n ∧ noted e1 (nameF o nm s) o = g ∧ (o = some 10 → Below w.heap.size w w')
theorem err_none : errO none := fun k h => by cases h
theorem err_some {k : Int} (h : okE k) : errO (some k) := fun j e => by cases e; exact h
/-- The file of a name comes next. -/
def openE (ok : By → Bool) (F : By → Option By) (most : Nat) (e : Ex) (s : By) : Ex :=
  if ok s = false then e.note 2 s else if 32 ≤ e.reads.length ∧ s ∉ e.reads then e.note 3 s else if e.fuel = 0 then e.note 9 s else
    match F s with
    | none => (e.burn.ask s).note 4 s
    | some t => (e.burn.ask s).come most s (toks t)
theorem inc_open (ok : By → Bool) (F : By → Option By) (most : Nat) (e : Ex) : incE ok F most e = match argsW e.inp 1 with
    | none => e.note 10 sInc
    | some (_, s, p) => openE ok F most (e.go p) s := by
  unfold incE openE
  rcases argsW e.inp 1 with _ | ⟨x, s, p⟩ <;> rfl
theorem come_no' {e : Ex} {most : Nat} {n : By} {l : List Tok} (h : ¬ (l.length + e.inp.length ≤ most)) : e.note 3 n = e.come most n l := by unfold Ex.come; rw [if_pos (by omega)]
theorem come_yes {e : Ex} {most : Nat} {n : By} {l : List Tok} (h : l.length + e.inp.length ≤ most) : { e with inp := l ++ e.inp } = e.come most n l := by unfold Ex.come; rw [if_neg (by omega)]
theorem own_ne {w : World} {base c p : Nat} {A : Option Addr} {l : List Tok} {t : TypeId} (h : Own t w base A c l) (hp : p < base) : InQ (fun b => b ≠ p) A l.length := fun h0 a ha => by
  have hg : (Value.slice A l.length c).ownBlock = some a.block := by rw [obA_own, ha]; rfl
  have := (World.ownsRow.lt h _ hg).1
  omega
/-- From where fuel is burnt on: what is answered. -/
def TailP (k : Xk) (n : Nat) (F : By → Option By) (e : Ex) (nm : By) (o : Option Int) (e1 : Ex) : Prop :=
  errO o ∧ noted e1 nm o = (if e.fuel = 0 then e.note 9 nm else match F nm with
    | none => (e.burn.ask nm).note 4 nm
    | some t => (e.burn.ask nm).come k.most nm (toks t))
set_option maxRecDepth 100000 in
set_option maxHeartbeats 8000000 in
theorem xopen_any (k : Xk) (e : Ex) (n : Nat) (fs : List Fl.Fl) (nm : By) (w : World) (h : XW k w e n) (hF : Fls k w fs) (hL : Lo k fs) (hr : e.reads.length ≤ 32) (hi : e.inp.length ≤ 1000) (hm : k.most ≤ 1000) (hfu : k.fuel ≤ 1000) (hnm : nm.length ≤ 4000) :
    Calls Tryz.prog 78 #[.pointer (some ⟨k.p, 0, none⟩), .string ⟨nm.toArray⟩] w (OpenPost k w n nm (openE Fl.nmOk (flF fs) k.most e nm)) := by
  have HZ := Lib.hid (show k.base ≤ w.heap.size by have := h.size; omega)
  have C0 := Lib.hid (Fl.name_any nm w (by omega))
  have HF := Lib.hid hF
  have HL := Lib.hid hL
  have HH := Lib.hid h
  obtain ⟨G, hG⟩ : ∃ G, openE Fl.nmOk (flF fs) k.most e nm = G := ⟨_, rfl⟩
  rw [hG]
  have HG := Lib.hid hG
  clear hG
  cases hok : Fl.nmOk nm
  · rw [hok] at C0
    have HE := Lib.hid (show e.note 2 nm = G by rw [← HG.out]; unfold openE; rw [if_pos hok])
    clear hok h hF hL HG
    go_enter Tryz.func78, Tryz.ntmps78
    go_wp2_with fail
    refine C0.out.mono ?_
    rintro en w1 ⟨rfl, rfl⟩
    go_wp2
    go_ret
    exact ⟨e, some 2, rfl, err_some (.inl rfl), Below.refl _ _, HH.out, HE.out, by decide⟩
  · rw [hok] at C0
    obtain ⟨s, hx, hsn⟩ := h
    have c9 : w.cell? ⟨k.p, 9, none⟩ = some (.slice s.RA e.reads.length s.rc) := hx.cell 9
    have C1 := Lib.hid (scontT_any s.RA s.rc e.reads nm w (OwnT.rd hx.reads) (by omega))
    by_cases hq : 32 ≤ e.reads.length ∧ nm ∉ e.reads
    · have HE := Lib.hid (show e.note 3 nm = G by rw [← HG.out]; unfold openE; rw [if_neg (show ¬ Fl.nmOk nm = false by rw [hok]; decide), if_pos hq])
      have q32 : (32 : Int) ≤ (e.reads.length : Int) := by omega
      rw [decide_eq_false hq.2] at C1
      clear hok hx hF hL HG hq
      go_enter Tryz.func78, Tryz.ntmps78
      go_wp2_with fail
      refine C0.out.mono ?_
      rintro en w1 ⟨rfl, rfl⟩
      go_wp2_with fail
      refine C1.out.mono ?_
      rintro en w2 ⟨rfl, m, rfl⟩
      go_wp2
      go_ret
      exact ⟨e, some 3, rfl, err_some (.inr (.inl rfl)), (drewN_below w m).mono HZ.out, HH.out.below (drewN_below w m), HE.out, by decide⟩
    · have HE := Lib.hid (show (if e.fuel = 0 then e.note 9 nm else match flF fs nm with
        | none => (e.burn.ask nm).note 4 nm
        | some t => (e.burn.ask nm).come k.most nm (toks t)) = G by rw [← HG.out]; unfold openE; rw [if_neg (show ¬ Fl.nmOk nm = false by rw [hok]; decide), if_neg hq])
      have CB := Lib.hid (fun W (hW : XW k W e n) => xburn_any k e n W hW hfu)
      have CA := Lib.hid (fun W (hW : XW k W e.burn n) (hb : Below k.base w W) => xask_any k e.burn n fs nm W hW (HF.out.low HL.out hb) HL.out (by show e.reads.length ≤ _; omega))
      have CF := Lib.hid (fun W (m : Nat) (hW : XW k W (e.burn.ask nm) n) (hm1 : m ≤ 1000000) => xfits_any k (e.burn.ask nm) n m W hW hm1 (by omega) (by show e.inp.length ≤ _; omega))
      have CG := Lib.hid (fun W (B : Option Addr) (d : Nat) (l : List Tok) (hW : XW k W (e.burn.ask nm) n) (hr : Rd W B l) (hP : InQ (fun b => b ≠ k.p) B l.length) (hl : l.length ≤ 10000) => xbring_any k (e.burn.ask nm) n B d l W hW hr hP (by show l.length + e.inp.length ≤ _; omega))
      have HT := Lib.hid (fun t (ht : flF fs nm = some t) => (show (toks t).length ≤ 4000 from Nat.le_trans (toks_len t) (HF.out.txt _ (Fl.getL_mem ht))))
      have HP := Lib.hid HH.out.size
      -- the two ways by which it comes to the fuel
      have WAY : ∃ W0 : World → Prop, True := ⟨fun _ => True, trivial⟩
      by_cases h32 : 32 ≤ e.reads.length
      all_goals
        first
          | (have hin : nm ∈ e.reads := Classical.byContradiction fun hc => hq ⟨h32, hc⟩
             rw [decide_eq_true hin] at C1
             have q32 : (32 : Int) ≤ (e.reads.length : Int) := by omega
             clear hok hx hF hL HG hq h32 hin WAY
             go_enter Tryz.func78, Tryz.ntmps78
             go_wp2_with fail
             refine C0.out.mono ?_
             rintro en w1 ⟨rfl, rfl⟩
             go_wp2_with fail
             refine C1.out.mono ?_
             rintro en w2 ⟨rfl, m, rfl⟩
             have HX0 := Lib.hid (HH.out.below (drewN_below w m))
             have HB0 := Lib.hid ((drewN_below w m).mono HZ.out))
          | (have q32 : ¬ (32 : Int) ≤ (e.reads.length : Int) := by omega
             clear hok hx hF hL HG hq h32 WAY
             go_enter Tryz.func78, Tryz.ntmps78
             go_wp2_with fail
             refine C0.out.mono ?_
             rintro en w1 ⟨rfl, rfl⟩
             have HX0 := HH
             have HB0 := Lib.hid (Below.refl k.base w))
        go_wp2_with fail
        refine (CB.out _ HX0.out).mono ?_
        by_cases h0 : e.fuel = 0
        · rw [if_pos h0, if_pos h0]
          rw [if_pos h0] at HE
          rintro en w3 ⟨rfl, hb3, hx3, -⟩
          have HB3 := Lib.hid (HB0.out.trans hb3)
          have HX3 := Lib.hid hx3
          unfold errV
          clear hb3 hx3 h0
          go_wp2
          go_ret
          exact ⟨e, some 9, rfl, err_some (.inr (.inr (.inr (.inl rfl)))), HB3.out, HX3.out, HE.out, by decide⟩
        · rw [if_neg h0, if_neg h0]
          rw [if_neg h0] at HE
          rintro en w3 ⟨rfl, hb3, hx3, -⟩
          have HB3 := Lib.hid (HB0.out.trans hb3)
          have HX3 := Lib.hid hx3
          unfold errV
          clear hb3 hx3 h0
          go_wp2_with fail
          refine (CA.out _ HX3.out HB3.out).mono ?_
          rintro en w4 ⟨a4, hpost⟩
          rcases hpost with ⟨hno, rfl, hb4, hx4⟩ | ⟨t, B, d, w1, hyes, rfl, hb1, hx1, ho, hb4⟩
          · have hx4 := hx4.xw
            rw [hno] at HE
            have HB4 := Lib.hid (HB3.out.trans hb4)
            have HX4 := Lib.hid hx4
            unfold errV
            clear hb4 hx4 hno
            go_wp2
            go_ret
            exact ⟨_, some 4, rfl, err_some (.inr (.inr (.inl rfl))), HB4.out, HX4.out, HE.out, by decide⟩
          · have hx1 := hx1.xw
            rw [hyes] at HE
            have HE : Hid ((e.burn.ask nm).come k.most nm (toks t) = G) := HE
            have HTL := Lib.hid (HT.out t hyes)
            have HS1 := Lib.hid (show k.base ≤ w1.heap.size by have := hx1.size; omega)
            have HB4 := Lib.hid ((HB3.out.trans hb1).trans (hb4.mono HS1.out))
            have HX4 := Lib.hid (hx1.below hb4)
            have HR4 := Lib.hid ho.rd
            have HQ4 := Lib.hid (own_ne ho hx1.size.1)
            obtain ⟨l, hl⟩ : ∃ l, toks t = l := ⟨_, rfl⟩
            rw [hl] at HE HTL HR4 HQ4 ⊢
            have hll := HTL.out
            unfold errV
            clear hb1 hx1 ho hb4 hyes hl
            go_wp2_with fail
            refine (CF.out _ l.length HX4.out (by omega)).mono ?_
            by_cases hfit : l.length + (e.burn.ask nm).inp.length ≤ k.most
            · rw [decide_eq_true hfit]
              have HE2 := Lib.hid ((come_yes (n := nm) hfit).trans HE.out)
              rintro en w5 ⟨rfl, hb5⟩
              have HX5 := Lib.hid (HX4.out.below hb5)
              have HR5 := Lib.hid (HR4.out.below hb5)
              have HB5 := Lib.hid (HB4.out.trans (hb5.mono (show k.base ≤ w4.heap.size by have := HX4.out.size; omega)))
              clear hb5 hfit
              go_wp2_with fail
              refine (CG.out _ B d l HX5.out HR5.out HQ4.out (by omega)).mono ?_
              rintro en w6 ⟨rfl, hb6, hx6⟩
              have HB6 := Lib.hid (HB5.out.trans hb6)
              have HX6 := Lib.hid hx6
              clear hb6 hx6
              go_wp2
              go_ret
              exact ⟨_, none, rfl, err_none, HB6.out, HX6.out, HE2.out, by decide⟩
            · rw [decide_eq_false hfit]
              have HE2 := Lib.hid ((come_no' (n := nm) hfit).trans HE.out)
              rintro en w5 ⟨rfl, hb5⟩
              have HX5 := Lib.hid (HX4.out.below hb5)
              have HB5 := Lib.hid (HB4.out.trans (hb5.mono (show k.base ≤ w4.heap.size by have := HX4.out.size; omega)))
              clear hb5 hfit
              go_wp2
              go_ret
              exact ⟨_, some 3, rfl, err_some (.inr (.inl rfl)), HB5.out, HX5.out, HE2.out, by decide⟩
theorem go_XR {k : Xk} {w : World} {s : Xs} {e : Ex} (h : XR k w s e) {p : Nat} (hp : p ≤ e.inp.length) : XR k (w.setCell ⟨k.p, 7, none⟩ (.int .i64 ((p : Int) + (s.at_ : Int)))) { s with at_ := s.at_ + p } (e.go p) := by
  have hal := h.atl
  have hil : e.inp.length = s.full.length - s.at_ := by rw [← h.inp, List.length_drop]
  refine h.setP 7 _ (a := s.at_ + p) (e' := e.go p) ?_ (by omega) (by show s.full.drop (s.at_ + p) = e.inp.drop p; rw [← h.inp, List.drop_drop]) rfl rfl rfl rfl rfl
  have : ((s.at_ + p : Nat) : Int) = (p : Int) + (s.at_ : Int) := by omega
  unfold xC
  rw [this]
  rfl
/-- A Word's text is no longer than tokens' texts are. -/
theorem argsW_name {l : List Tok} {n : Nat} {x : List (List Tok)} {s : By} {p : Nat} (hl : PTl l) (h : argsW l n = some (x, s, p)) : s.length ≤ 4000 := by
  obtain ⟨h1, h2⟩ := argsW_some h
  unfold wordO at h2
  split at h2
  · rename_i t ht
    split at h2
    · cases h2
      have hx : [t] ∈ x := by
        cases x with
        | nil => simp at ht
        | cons y r => simp at ht; subst ht; simp
      exact (hl t (args_mem h1 [t] hx t (by simp))).2
    · cases h2
  · cases h2
set_option maxRecDepth 100000 in
set_option maxHeartbeats 8000000 in
theorem xinclude_any (k : Xk) (e : Ex) (n : Nat) (fs : List Fl.Fl) (w : World) (h : XW k w e n) (hF : Fls k w fs) (hL : Lo k fs) (hr : e.reads.length ≤ 32) (hi : e.inp.length ≤ 1000) (hm : k.most ≤ 1000) (hfu : k.fuel ≤ 1000) (hpt : PTl e.inp) :
    Calls Tryz.prog 47 #[.pointer (some ⟨k.p, 0, none⟩)] w (CmdPost k w n sInc (incE Fl.nmOk (flF fs) k.most e)) := by
  have HZ := Lib.hid (show k.base ≤ w.heap.size by have := h.size; omega)
  have HF := Lib.hid hF
  have HL := Lib.hid hL
  obtain ⟨s, hx, hsn⟩ := h
  have C1 := Lib.hid (xgroups_any k e n 1 ⟨by omega, by omega⟩ w s hx)
  obtain ⟨G, hG⟩ : ∃ G, incE Fl.nmOk (flF fs) k.most e = G := ⟨_, rfl⟩
  rw [hG]
  have HG := Lib.hid ((inc_open Fl.nmOk (flF fs) k.most e).symm.trans hG)
  have HX := Lib.hid hx
  have HN := Lib.hid hsn
  have HP := Lib.hid hpt
  clear hx hF hL hG hsn hpt
  go_enter Tryz.func47, Tryz.ntmps47
  go_wp2_with fail
  refine C1.out.mono ?_
  rintro en w1 hpost
  rcases hpost with ⟨hno, rfl, hb1⟩ | ⟨x, nm, p, A, c, hyes, rfl, ho, hb1⟩
  · rw [hno] at HG
    have HBS := Lib.hid hb1
    have HB := Lib.hid (hb1.mono HZ.out)
    have HX1 := Lib.hid (HX.out.below hb1)
    unfold errV
    clear hb1 hno
    go_wp2
    go_ret2
    exact ⟨e, [], some 10, rfl, err_some (.inr (.inr (.inr (.inr rfl)))), HB.out, ⟨s, HX1.out, HN.out⟩, HG.out, fun _ => HBS.out⟩
  · rw [hyes] at HG
    have hpl := (args_part (argsW_some hyes).1 (Nat.zero_le _)).2.1
    have HNM := Lib.hid (argsW_name HP.out hyes)
    have hx1 := HX.out.below hb1
    have c7 : w1.cell? ⟨k.p, 7, none⟩ = some (.int .i64 s.at_) := hx1.cell 7
    have f7 := hx1.froz 7
    have HX2 := Lib.hid (go_XR hx1 hpl)
    have HB2 := Lib.hid ((hb1.mono HZ.out).setCell hx1.hp (p := ⟨k.p, 7, none⟩) (.int .i64 ((p : Int) + (s.at_ : Int))))
    obtain ⟨W, hW⟩ : ∃ W, w1.setCell ⟨k.p, 7, none⟩ (.int .i64 ((p : Int) + (s.at_ : Int))) = W := ⟨_, rfl⟩
    rw [hW] at HX2 HB2
    have C2 := Lib.hid (xopen_any k (e.go p) n fs nm W ⟨_, HX2.out, HN.out⟩ (HF.out.low HL.out HB2.out) HL.out hr (by simp [Ex.go]; omega) hm hfu HNM.out)
    simp only at HG
    unfold errV
    clear hb1 hyes ho hx1
    go_wp2_with fail
    refine C2.out.mono ?_
    rintro en w2 ⟨e1, o, rfl, ho, hb2, hx2, he, h10⟩
    have HH := Lib.hid (And.intro ho (And.intro hb2 (And.intro hx2 (And.intro he h10))))
    clear ho hb2 hx2 he h10
    go_wp2
    go_ret2
    obtain ⟨q1, q2, q3, q4, q5⟩ := HH.out
    exact ⟨e1, nm, o, rfl, q1, HB2.out.trans q2, q3, by rw [← HG.out, ← q4]; unfold nameF; rw [if_neg q5], fun h => absurd h q5⟩
end Go.Proofs.YtmnbepapgghdaaaGreat
