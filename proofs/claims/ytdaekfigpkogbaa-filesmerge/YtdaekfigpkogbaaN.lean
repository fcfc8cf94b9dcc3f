/-
  Append of one text onto a row of texts of one's own; the contract of files.Diff: the names that differ, xa the plain function says.
-/
import Derived.Test.YtdaekfigpkogbaaM
import Derived.BigRegion
namespace Go.Proofs.Ytdaekfigpkogbaa
open Go.RowKit

theorem scells_len (xs : List (List UInt8)) : (scells xs).length = xs.length * 1 := by simp [scells]
theorem wpList_append_s {ops : Array Oper} {rest : List Oper} {o : Oper} {a : Act} {Q : Exit → Act → World → Prop} (w : World) (hgd : o.guard = none) (s x : Operand)
    (ho : o.op = .call { callee := .builtin .append, args := #[s, x], argTypes := #[42, 42] }) (base : Nat) (v : Value) (xs : List (List UInt8)) (hs : a.eval s = v) (hown : w.ownsRow base 9 1 v xs.length (scells xs))
    (b : Nat) (t : List UInt8) (hx : a.eval x = .slice (some ⟨b, 0, none⟩) 1 1) (hc : w.cell? ⟨b, 0, none⟩ = some (.string ⟨t.toArray⟩)) (hlen : xs.length + 1 ≤ 200000) (hbase : base ≤ w.heap.size) (r : List (List UInt8)) (hr0 : xs ++ [t] = r)
    (h : ∀ A' c' w', OwnS w' base A' c' r → Below base w w' → w.grownBy w' v.ownBlock → wpList Try.prog ops Q rest (a.put o.dst (.slice A' r.length c')) w') : wpList Try.prog ops Q (o :: rest) a w := by
  refine wpList_plain hgd fun K hK => ?_
  obtain ⟨i0, hi, hz0, hz1, hz2⟩ := info_parts Try.info9
  obtain ⟨v', w', h1, h2, h3, _⟩ := run_append_own (P := Try.prog) w base 42 o.type 9 i0 _ 1 16 Try.underlying42 hi hz0 hz1 hz2 rfl (by decide) v xs.length (scells xs) hown ⟨b, 0, none⟩ 1 1 [.string ⟨t.toArray⟩] rfl
    (fun j u hj => by
      match j, hj with
      | 0, hj => simp at hj; subst hj; simpa [Addr.add] using hc
      | j + 1, hj => simp at hj) (fun u hu => by simp at hu; subst hu; rfl) (by unfold maxLen; omega) (by omega) hbase
  obtain ⟨A', c', rfl⟩ := own_shape h2
  have e1 : xs.length + 1 = r.length := by rw [← hr0]; simp
  have e2 : scells xs ++ [.string ⟨t.toArray⟩] = scells r := by rw [← hr0]; simp [scells]
  rw [e1] at h1 h2
  rw [e2] at h2
  unfold Oper.wp
  simp only [execOp, ho, resolve, invoke, builtin, Sem.run_bind, Sem.run_pure, Result.andThen_ok, List.map_toArray, List.map_cons, List.map_nil, hs, hx, h1]
  exact hK _ _ (h A' c' w' h2 (below_grown hown h3 hbase) h3)
theorem OwnS.below {w w' : World} {base : Nat} {A : Option Addr} {c : Nat} {xs : List (List UInt8)} (h : OwnS w base A c xs) (hb : Below w.heap.size w w') : OwnS w' base A c xs := by
  refine ⟨h.1, ?_⟩
  rcases h.2 with q | ⟨g, cap, cur, h1, h2, h3, r⟩
  · exact .inl q
  · have hlt : g < w.heap.size := by
      rcases Nat.lt_or_ge g w.heap.size with hlt | hge
      · exact hlt
      · rw [Array.getElem?_eq_none hge] at h3; cases h3
    exact .inr ⟨g, cap, cur, h1, h2, (hb.block g hlt).trans h3, r⟩
def lenV : Value → Nat | .slice _ n _ => n | _ => 0
theorem cut_one (A : Option Addr) (n c : Nat) (hk : 1 ≤ n) (w : World) : (Instr.slice 22 (.slice A n c) (some (.int .i64 1)) none none).run Try.prog w = .ok (.slice (cutA A c 1) (n - 1) (c - 1)) w := cut_from A n c 1 hk w
theorem Rd.head {w : World} {b o : Nat} {f : Fl} {fs : List Fl} (h : Rd w (some ⟨b, o, none⟩) (f :: fs)) : w.cell? ⟨b, o, none⟩ = some (.string ⟨f.1.toArray⟩) ∧ w.cell? ⟨b, o + 1, none⟩ = some (.string ⟨f.2.toArray⟩) := by
  obtain ⟨b', o', e, hc⟩ := h (by simp)
  cases e
  simpa using hc 0 f rfl

theorem diff_x {x y : Fl} {a b : List Fl} (h : Op.bytesLess x.1 y.1 = true) : diffL (x :: a) (y :: b) = x.1 :: diffL a (y :: b) := by rw [diffL, if_pos h]
theorem diff_y {x y : Fl} {a b : List Fl} (h : Op.bytesLess y.1 x.1 = true) : diffL (x :: a) (y :: b) = y.1 :: diffL (x :: a) b := by rw [diffL, if_neg (by rw [bl_asymm h]; decide), if_pos h]
theorem diff_e {x y : Fl} {a b : List Fl} (h : x.1 = y.1) (k : x.2 = y.2) : diffL (x :: a) (y :: b) = diffL a b := by rw [diffL, h, bl_irrefl]; simp [k]
theorem diff_n {x y : Fl} {a b : List Fl} (h : x.1 = y.1) (k : x.2 ≠ y.2) : diffL (x :: a) (y :: b) = x.1 :: diffL a b := by rw [diffL, h, bl_irrefl]; simp [k]
theorem rest_one {xs r : List (List UInt8)} {t : List UInt8} {d e : List (List UInt8)} (h : xs ++ (t :: d) = e) (k : xs ++ [t] = r) : r ++ d = e := by rw [← h, ← k]; simp
theorem two_new (w : World) (a b c d : Value) (t u : TypeId) : ((w.alloc (.cells #[a, b] t)).alloc (.cells #[c, d] u)).drew.cell? ⟨w.heap.size, 0, none⟩ = some a ∧ ((w.alloc (.cells #[a, b] t)).alloc (.cells #[c, d] u)).drew.cell? ⟨w.heap.size, 1, none⟩ = some b ∧
    ((w.alloc (.cells #[a, b] t)).alloc (.cells #[c, d] u)).drew.cell? ⟨w.heap.size + 1, 0, none⟩ = some c ∧ ((w.alloc (.cells #[a, b] t)).alloc (.cells #[c, d] u)).drew.cell? ⟨w.heap.size + 1, 1, none⟩ = some d := by
  refine ⟨?_, ?_, ?_, ?_⟩
  · show ((w.alloc _).alloc _).cell? _ = _
    rw [World.cell?_alloc_past _ _ _ (by simp), World.cell?_alloc_new]; rfl
  · show ((w.alloc _).alloc _).cell? _ = _
    rw [World.cell?_alloc_past _ _ _ (by simp), World.cell?_alloc_new]; rfl
  · show ((w.alloc _).alloc _).cell? _ = _
    rw [World.cell?_alloc_at _ _ _ _ (by simp)]; rfl
  · show ((w.alloc _).alloc _).cell? _ = _
    rw [World.cell?_alloc_at _ _ _ _ (by simp)]; rfl
theorem two_alloc_below (w : World) (o o' : Obj) : Below w.heap.size w ((w.alloc o).alloc o').drew := ((one_below w o).alloc (by simp) o').drew
theorem own_kept {w w' : World} {base base' : Nat} {N A : Option Addr} {nc c : Nat} {xs : List (List UInt8)} {zs : List Fl} (h1 : w.ownsRow base 9 1 (.slice N xs.length nc) xs.length (scells xs)) (h2 : w.ownsRow base' 25 2 (.slice A zs.length c) zs.length (fcells zs)) (hg : w.grownBy w' (Value.ownBlock (.slice N xs.length nc))) : Own w' base' A c zs := by
  refine World.ownsRow.kept h2 hg ?_
  rcases h2.2 with ⟨hv, _⟩ | ⟨g, cap, cur, hv, _, hh, _⟩
  · left; rw [hv]; rfl
  · right
    rw [hv]
    intro e
    rcases h1.2 with ⟨hv', _⟩ | ⟨g', cap', cur', hv', _, hh', _⟩
    · rw [hv'] at e; cases e
    · rw [hv'] at e
      simp only [Value.ownBlock, Option.some.injEq] at e
      subst e
      rw [hh] at hh'
      simp at hh'
theorem min_fst {x y : List UInt8} (h : Op.bytesLess x y = true ∨ x = y) (ts : Array TypeId) (t : TypeId) (w : World) : (Builtin.min_ ts t #[.string ⟨x.toArray⟩, .string ⟨y.toArray⟩]).run Try.prog w = .ok (.string ⟨x.toArray⟩) w := by
  simp [Builtin.min_, Builtin.min2, Op.stringOp, asBool]
  intro h1 h2
  rcases h with h | h
  · rw [h] at h1; cases h1
  · exact absurd h h2
theorem min_snd {x y : List UInt8} (h : Op.bytesLess y x = true) (ts : Array TypeId) (t : TypeId) (w : World) : (Builtin.min_ ts t #[.string ⟨x.toArray⟩, .string ⟨y.toArray⟩]).run Try.prog w = .ok (.string ⟨y.toArray⟩) w := by
  simp [Builtin.min_, Builtin.min2, Op.stringOp, asBool]
  rintro (h1 | h1)
  · rw [bl_asymm h] at h1; cases h1
  · exact h1
theorem own_far {w W w2 : World} {base : Nat} {N : Option Addr} {nc : Nat} {xs : List (List UInt8)} (hown : OwnS w base N nc xs) (_hb : Below w.heap.size w W) (o : Obj) (hg : (W.alloc o).grownBy w2 (Value.ownBlock (.slice N xs.length nc))) {P k : Nat} {v : Value} (hP : w.heap.size ≤ P) (h : W.cell? ⟨P, k, none⟩ = some v) : w2.cell? ⟨P, k, none⟩ = some v := by
  refine hg.cell (cell_below (one_below W o) h) fun e => ?_
  have := (World.ownsRow.lt hown P e.symm).2
  omega
def DiffRes (w : World) (r : List (List UInt8)) (e : Ending) (w' : World) : Prop := ∃ A c, e = .returned (.slice A r.length c) ∧ OwnS w' w.heap.size A c r ∧ Below w.heap.size w w'

set_option maxRecDepth 100000 in
set_option maxHeartbeats 4000000 in
theorem diff_any (A B : Option Addr) (c d : Nat) (fs gs : List Fl) (w : World) (hr : Rd w A fs) (hq : Rd w B gs) (hl : fs.length ≤ 100) (hg : gs.length ≤ 100) (hc : fs.length ≤ c) (hd : gs.length ≤ d) (hc63 : c ≤ 9223372036854775807) (hd63 : d ≤ 9223372036854775807) :
    Calls Try.prog 26 #[.slice A fs.length c, .slice B gs.length d] w (DiffRes w (diffL fs gs)) := by
  go_enter Try.func26, Try.ntmps26
  go_wp2_with fail
  go_loopw [0, 1, 5] (fun va vb vn wr => ∃ (A B N : Option Addr) (c d nc n m : Nat) (xa xb : List Fl) (xs : List (List UInt8)), va = .slice A n c ∧ vb = .slice B m d ∧ vn = .slice N xs.length nc ∧ n = xa.length ∧ m = xb.length ∧ Rd w A xa ∧ Rd w B xb ∧ xs ++ diffL xa xb = diffL fs gs ∧ n ≤ c ∧ m ≤ d ∧ c ≤ 9223372036854775807 ∧ d ≤ 9223372036854775807 ∧ xs.length + n + m ≤ 200 ∧ OwnS wr w.heap.size N nc xs ∧ Below w.heap.size w wr)
    (fun va vb _ _ => lenV va + lenV vb)
  case atStart => exact ⟨A, B, none, c, d, 0, fs.length, gs.length, fs, gs, [], rfl, rfl, rfl, rfl, rfl, hr, hq, rfl, hc, hd, hc63, hd63, by simp; omega, World.ownsRow_nil _ _ _ _, Below.refl _ _⟩
  case round =>
    clear hr hq hl hg hc hd hc63 hd63
    obtain ⟨A, B, N, c, d, nc, n, m, xa, xb, xs, rfl, rfl, rfl, hn, hm, hr, hq, hx, h1, h2, h3, h4, h5, hown, hb⟩ := hrel
    have HX := Lib.hid hx
    clear hx
    by_cases hgo : 0 < n ∧ 0 < m
    · obtain ⟨hn0, hm0⟩ := hgo
      obtain ⟨x, xa, rfl⟩ : ∃ x xa', xa = x :: xa' := by
        cases xa with
        | nil => simp at hn; omega
        | cons x r => exact ⟨x, r, rfl⟩
      obtain ⟨y, xb, rfl⟩ : ∃ x xa', xb = x :: xa' := by
        cases xb with
        | nil => simp at hm; omega
        | cons x r => exact ⟨x, r, rfl⟩
      have hra := Rd.cut hr (k := 1) (c := c) (by simp) (by omega)
      have hrb := Rd.cut hq (k := 1) (c := d) (by simp) (by omega)
      obtain ⟨b1, o1, rfl, _⟩ := hr (by simp)
      obtain ⟨b2, o2, rfl, _⟩ := hq (by simp)
      obtain ⟨x1, x2⟩ := (hr.below hb).head
      obtain ⟨y1, y2⟩ := (hq.below hb).head
      have HR := Lib.hid hr
      have HQ := Lib.hid hq
      have HN := Lib.hid hn
      have HM := Lib.hid hm
      have HRA := Lib.hid hra
      have HRB := Lib.hid hrb
      clear hn hm hra hrb hr hq
      have ea := cut_one (some ⟨b1, o1, none⟩) n c (by omega)
      have eb := cut_one (some ⟨b2, o2, none⟩) m d (by omega)
      have lb1 : b1 < wr.heap.size := World.block_lt_of_cell? _ _ x1
      have lb2 : b2 < wr.heap.size := World.block_lt_of_cell? _ _ y1
      rcases bl_tri x.1 y.1 with k1 | k1 | k1
      · have _t : True := trivial
        have HD := Lib.hid (diff_x (a := xa) (b := xb) k1)
        have hmin := min_fst (x := x.1) (y := y.1) (.inl k1)
        have hrun := fl_neq_yes (f := x) (g := y) (fun e => bl_ne k1 (by rw [e]))
        have q2 : Op.bytesLess y.1 x.1 = false := bl_asymm k1
        have q3 : (x.1 == y.1) = false := by simpa using bl_ne k1
        have q4 : (y.1 == x.1) = false := by simpa using (bl_ne k1).symm
        obtain ⟨r, hr0⟩ : ∃ r, xs ++ [x.1] = r := ⟨_, rfl⟩
        have RL := Lib.hid (show r.length = xs.length + 1 by rw [← hr0]; simp)
        have R := Lib.hid hr0
        clear hr0
        go_wp2_with fail
        go_region
        · have tn := two_new wr (.string ⟨x.1.toArray⟩) (.string ⟨x.2.toArray⟩) (.string ⟨y.1.toArray⟩) (.string ⟨y.2.toArray⟩) 25 25
          have hbW := two_alloc_below wr (.cells #[.string ⟨x.1.toArray⟩, .string ⟨x.2.toArray⟩] 25) (.cells #[.string ⟨y.1.toArray⟩, .string ⟨y.2.toArray⟩] 25)
          obtain ⟨t1, t2, t3, t4⟩ := tn
          generalize ((wr.alloc (.cells #[.string ⟨x.1.toArray⟩, .string ⟨x.2.toArray⟩] 25)).alloc (.cells #[.string ⟨y.1.toArray⟩, .string ⟨y.2.toArray⟩] 25)).drew = W at t1 t2 t3 t4 hbW ⊢
          have hownW := hown.below hbW
          have hbb := bch hb hbW
          go_wp2_with (at_builtin; refine wpList_append_s _ rfl _ _ rfl w.heap.size _ xs rfl (hownW.alloc _) W.heap.size x.1 rfl (by rw [World.cell?_alloc_new]; rfl) (by omega) (by have := hbb.size; simp; omega) r R.out ?_; intro N2 nc2 w2 hown2 hb2 hg2; have hb3 := (hbb.alloc hbb.size (.cells #[.string ⟨x.1.toArray⟩] 9)).trans hb2; have m1 := own_far hown hbW _ hg2 (Nat.le_refl _) t1; have m2 := own_far hown hbW _ hg2 (Nat.le_refl _) t2; have m3 := own_far hown hbW _ hg2 (Nat.le_succ _) t3; have m4 := own_far hown hbW _ hg2 (Nat.le_succ _) t4)
          go_roundw
          case rel => exact ⟨_, _, N2, _, _, nc2, n - 1, m, xa, y :: xb, r, rfl, rfl, rfl, by have := HN.out; simp at this; omega, HM.out, HRA.out, HQ.out, rest_one (by rw [← HD.out]; exact HX.out) R.out, by omega, by omega, by omega, by omega, by have := RL.out; omega, hown2, hb3⟩
          case measure => simp [lenV]; omega
        · have tn := two_new wr (.string ⟨y.1.toArray⟩) (.string ⟨y.2.toArray⟩) (.string ⟨x.1.toArray⟩) (.string ⟨x.2.toArray⟩) 25 25
          have hbW := two_alloc_below wr (.cells #[.string ⟨y.1.toArray⟩, .string ⟨y.2.toArray⟩] 25) (.cells #[.string ⟨x.1.toArray⟩, .string ⟨x.2.toArray⟩] 25)
          obtain ⟨t1, t2, t3, t4⟩ := tn
          generalize ((wr.alloc (.cells #[.string ⟨y.1.toArray⟩, .string ⟨y.2.toArray⟩] 25)).alloc (.cells #[.string ⟨x.1.toArray⟩, .string ⟨x.2.toArray⟩] 25)).drew = W at t1 t2 t3 t4 hbW ⊢
          have hownW := hown.below hbW
          have hbb := bch hb hbW
          go_wp2_with (at_builtin; refine wpList_append_s _ rfl _ _ rfl w.heap.size _ xs rfl (hownW.alloc _) W.heap.size x.1 rfl (by rw [World.cell?_alloc_new]; rfl) (by omega) (by have := hbb.size; simp; omega) r R.out ?_; intro N2 nc2 w2 hown2 hb2 hg2; have hb3 := (hbb.alloc hbb.size (.cells #[.string ⟨x.1.toArray⟩] 9)).trans hb2; have m1 := own_far hown hbW _ hg2 (Nat.le_refl _) t1; have m2 := own_far hown hbW _ hg2 (Nat.le_refl _) t2; have m3 := own_far hown hbW _ hg2 (Nat.le_succ _) t3; have m4 := own_far hown hbW _ hg2 (Nat.le_succ _) t4)
          go_roundw
          case rel => exact ⟨_, _, N2, _, _, nc2, n - 1, m, xa, y :: xb, r, rfl, rfl, rfl, by have := HN.out; simp at this; omega, HM.out, HRA.out, HQ.out, rest_one (by rw [← HD.out]; exact HX.out) R.out, by omega, by omega, by omega, by omega, by have := RL.out; omega, hown2, hb3⟩
          case measure => simp [lenV]; omega
      · by_cases k2 : x.2 = y.2
        · have _t : True := trivial
          have HD := Lib.hid (diff_e (a := xa) (b := xb) k1 k2)
          have hrun := fl_neq_no (f := x) (g := y) (Prod.ext k1 k2)
          have q1 : Op.bytesLess x.1 y.1 = false := by rw [k1, bl_irrefl]
          have q2 : Op.bytesLess y.1 x.1 = false := by rw [k1, bl_irrefl]
          have q3 : (x.1 == y.1) = true := by simpa using k1
          have q4 : (y.1 == x.1) = true := by simpa using k1.symm
          clear k1 k2
          go_wp2_with fail
          go_region
          · have tn := two_new wr (.string ⟨x.1.toArray⟩) (.string ⟨x.2.toArray⟩) (.string ⟨y.1.toArray⟩) (.string ⟨y.2.toArray⟩) 25 25
            have hbW := two_alloc_below wr (.cells #[.string ⟨x.1.toArray⟩, .string ⟨x.2.toArray⟩] 25) (.cells #[.string ⟨y.1.toArray⟩, .string ⟨y.2.toArray⟩] 25)
            obtain ⟨t1, t2, t3, t4⟩ := tn
            generalize ((wr.alloc (.cells #[.string ⟨x.1.toArray⟩, .string ⟨x.2.toArray⟩] 25)).alloc (.cells #[.string ⟨y.1.toArray⟩, .string ⟨y.2.toArray⟩] 25)).drew = W at t1 t2 t3 t4 hbW ⊢
            have hownW := hown.below hbW
            have hbb := bch hb hbW
            go_wp2
            go_roundw
            case rel => exact ⟨_, _, N, _, _, nc, n - 1, m - 1, xa, xb, xs, rfl, rfl, rfl, by have := HN.out; simp at this; omega, by have := HM.out; simp at this; omega, HRA.out, HRB.out, by rw [← HD.out]; exact HX.out, by omega, by omega, by omega, by omega, by omega, hownW, hbb⟩
            case measure => simp [lenV]; omega
          · have tn := two_new wr (.string ⟨y.1.toArray⟩) (.string ⟨y.2.toArray⟩) (.string ⟨x.1.toArray⟩) (.string ⟨x.2.toArray⟩) 25 25
            have hbW := two_alloc_below wr (.cells #[.string ⟨y.1.toArray⟩, .string ⟨y.2.toArray⟩] 25) (.cells #[.string ⟨x.1.toArray⟩, .string ⟨x.2.toArray⟩] 25)
            obtain ⟨t1, t2, t3, t4⟩ := tn
            generalize ((wr.alloc (.cells #[.string ⟨y.1.toArray⟩, .string ⟨y.2.toArray⟩] 25)).alloc (.cells #[.string ⟨x.1.toArray⟩, .string ⟨x.2.toArray⟩] 25)).drew = W at t1 t2 t3 t4 hbW ⊢
            have hownW := hown.below hbW
            have hbb := bch hb hbW
            go_wp2
            go_roundw
            case rel => exact ⟨_, _, N, _, _, nc, n - 1, m - 1, xa, xb, xs, rfl, rfl, rfl, by have := HN.out; simp at this; omega, by have := HM.out; simp at this; omega, HRA.out, HRB.out, by rw [← HD.out]; exact HX.out, by omega, by omega, by omega, by omega, by omega, hownW, hbb⟩
            case measure => simp [lenV]; omega
        · have _t : True := trivial
          have HD := Lib.hid (diff_n (a := xa) (b := xb) k1 k2)
          have hrun := fl_neq_yes (f := x) (g := y) (fun e => k2 (by rw [e]))
          have q1 : Op.bytesLess x.1 y.1 = false := by rw [k1, bl_irrefl]
          have q2 : Op.bytesLess y.1 x.1 = false := by rw [k1, bl_irrefl]
          have q3 : (x.1 == y.1) = true := by simpa using k1
          have q4 : (y.1 == x.1) = true := by simpa using k1.symm
          have hmin := min_fst (x := x.1) (y := y.1) (.inr k1)
          clear k1 k2
          obtain ⟨r, hr0⟩ : ∃ r, xs ++ [x.1] = r := ⟨_, rfl⟩
          have RL := Lib.hid (show r.length = xs.length + 1 by rw [← hr0]; simp)
          have R := Lib.hid hr0
          clear hr0
          go_wp2_with fail
          go_region
          · have tn := two_new wr (.string ⟨x.1.toArray⟩) (.string ⟨x.2.toArray⟩) (.string ⟨y.1.toArray⟩) (.string ⟨y.2.toArray⟩) 25 25
            have hbW := two_alloc_below wr (.cells #[.string ⟨x.1.toArray⟩, .string ⟨x.2.toArray⟩] 25) (.cells #[.string ⟨y.1.toArray⟩, .string ⟨y.2.toArray⟩] 25)
            obtain ⟨t1, t2, t3, t4⟩ := tn
            generalize ((wr.alloc (.cells #[.string ⟨x.1.toArray⟩, .string ⟨x.2.toArray⟩] 25)).alloc (.cells #[.string ⟨y.1.toArray⟩, .string ⟨y.2.toArray⟩] 25)).drew = W at t1 t2 t3 t4 hbW ⊢
            have hownW := hown.below hbW
            have hbb := bch hb hbW
            go_wp2_with (at_builtin; refine wpList_append_s _ rfl _ _ rfl w.heap.size _ xs rfl (hownW.alloc _) W.heap.size x.1 rfl (by rw [World.cell?_alloc_new]; rfl) (by omega) (by have := hbb.size; simp; omega) r R.out ?_; intro N2 nc2 w2 hown2 hb2 hg2; have hb3 := (hbb.alloc hbb.size (.cells #[.string ⟨x.1.toArray⟩] 9)).trans hb2; have m1 := own_far hown hbW _ hg2 (Nat.le_refl _) t1; have m2 := own_far hown hbW _ hg2 (Nat.le_refl _) t2; have m3 := own_far hown hbW _ hg2 (Nat.le_succ _) t3; have m4 := own_far hown hbW _ hg2 (Nat.le_succ _) t4)
            go_roundw
            case rel => exact ⟨_, _, N2, _, _, nc2, n - 1, m - 1, xa, xb, r, rfl, rfl, rfl, by have := HN.out; simp at this; omega, by have := HM.out; simp at this; omega, HRA.out, HRB.out, rest_one (by rw [← HD.out]; exact HX.out) R.out, by omega, by omega, by omega, by omega, by have := RL.out; omega, hown2, hb3⟩
            case measure => simp [lenV]; omega
          · have tn := two_new wr (.string ⟨y.1.toArray⟩) (.string ⟨y.2.toArray⟩) (.string ⟨x.1.toArray⟩) (.string ⟨x.2.toArray⟩) 25 25
            have hbW := two_alloc_below wr (.cells #[.string ⟨y.1.toArray⟩, .string ⟨y.2.toArray⟩] 25) (.cells #[.string ⟨x.1.toArray⟩, .string ⟨x.2.toArray⟩] 25)
            obtain ⟨t1, t2, t3, t4⟩ := tn
            generalize ((wr.alloc (.cells #[.string ⟨y.1.toArray⟩, .string ⟨y.2.toArray⟩] 25)).alloc (.cells #[.string ⟨x.1.toArray⟩, .string ⟨x.2.toArray⟩] 25)).drew = W at t1 t2 t3 t4 hbW ⊢
            have hownW := hown.below hbW
            have hbb := bch hb hbW
            go_wp2_with (at_builtin; refine wpList_append_s _ rfl _ _ rfl w.heap.size _ xs rfl (hownW.alloc _) W.heap.size x.1 rfl (by rw [World.cell?_alloc_new]; rfl) (by omega) (by have := hbb.size; simp; omega) r R.out ?_; intro N2 nc2 w2 hown2 hb2 hg2; have hb3 := (hbb.alloc hbb.size (.cells #[.string ⟨x.1.toArray⟩] 9)).trans hb2; have m1 := own_far hown hbW _ hg2 (Nat.le_refl _) t1; have m2 := own_far hown hbW _ hg2 (Nat.le_refl _) t2; have m3 := own_far hown hbW _ hg2 (Nat.le_succ _) t3; have m4 := own_far hown hbW _ hg2 (Nat.le_succ _) t4)
            go_roundw
            case rel => exact ⟨_, _, N2, _, _, nc2, n - 1, m - 1, xa, xb, r, rfl, rfl, rfl, by have := HN.out; simp at this; omega, by have := HM.out; simp at this; omega, HRA.out, HRB.out, rest_one (by rw [← HD.out]; exact HX.out) R.out, by omega, by omega, by omega, by omega, by have := RL.out; omega, hown2, hb3⟩
            case measure => simp [lenV]; omega
      · have _t : True := trivial
        have HD := Lib.hid (diff_y (a := xa) (b := xb) k1)
        have hmin := min_snd (x := x.1) (y := y.1) k1
        have hrun := fl_neq_yes (f := x) (g := y) (fun e => bl_ne k1 (by rw [e]))
        have q2 : Op.bytesLess x.1 y.1 = false := bl_asymm k1
        have q3 : (x.1 == y.1) = false := by simpa using (bl_ne k1).symm
        have q4 : (y.1 == x.1) = false := by simpa using bl_ne k1
        obtain ⟨r, hr0⟩ : ∃ r, xs ++ [y.1] = r := ⟨_, rfl⟩
        have RL := Lib.hid (show r.length = xs.length + 1 by rw [← hr0]; simp)
        have R := Lib.hid hr0
        clear hr0
        go_wp2_with fail
        go_region
        · have tn := two_new wr (.string ⟨x.1.toArray⟩) (.string ⟨x.2.toArray⟩) (.string ⟨y.1.toArray⟩) (.string ⟨y.2.toArray⟩) 25 25
          have hbW := two_alloc_below wr (.cells #[.string ⟨x.1.toArray⟩, .string ⟨x.2.toArray⟩] 25) (.cells #[.string ⟨y.1.toArray⟩, .string ⟨y.2.toArray⟩] 25)
          obtain ⟨t1, t2, t3, t4⟩ := tn
          generalize ((wr.alloc (.cells #[.string ⟨x.1.toArray⟩, .string ⟨x.2.toArray⟩] 25)).alloc (.cells #[.string ⟨y.1.toArray⟩, .string ⟨y.2.toArray⟩] 25)).drew = W at t1 t2 t3 t4 hbW ⊢
          have hownW := hown.below hbW
          have hbb := bch hb hbW
          go_wp2_with (at_builtin; refine wpList_append_s _ rfl _ _ rfl w.heap.size _ xs rfl (hownW.alloc _) W.heap.size y.1 rfl (by rw [World.cell?_alloc_new]; rfl) (by omega) (by have := hbb.size; simp; omega) r R.out ?_; intro N2 nc2 w2 hown2 hb2 hg2; have hb3 := (hbb.alloc hbb.size (.cells #[.string ⟨y.1.toArray⟩] 9)).trans hb2; have m1 := own_far hown hbW _ hg2 (Nat.le_refl _) t1; have m2 := own_far hown hbW _ hg2 (Nat.le_refl _) t2; have m3 := own_far hown hbW _ hg2 (Nat.le_succ _) t3; have m4 := own_far hown hbW _ hg2 (Nat.le_succ _) t4)
          go_roundw
          case rel => exact ⟨_, _, N2, _, _, nc2, n, m - 1, x :: xa, xb, r, rfl, rfl, rfl, HN.out, by have := HM.out; simp at this; omega, HR.out, HRB.out, rest_one (by rw [← HD.out]; exact HX.out) R.out, by omega, by omega, by omega, by omega, by have := RL.out; omega, hown2, hb3⟩
          case measure => simp [lenV]; omega
        · have tn := two_new wr (.string ⟨y.1.toArray⟩) (.string ⟨y.2.toArray⟩) (.string ⟨x.1.toArray⟩) (.string ⟨x.2.toArray⟩) 25 25
          have hbW := two_alloc_below wr (.cells #[.string ⟨y.1.toArray⟩, .string ⟨y.2.toArray⟩] 25) (.cells #[.string ⟨x.1.toArray⟩, .string ⟨x.2.toArray⟩] 25)
          obtain ⟨t1, t2, t3, t4⟩ := tn
          generalize ((wr.alloc (.cells #[.string ⟨y.1.toArray⟩, .string ⟨y.2.toArray⟩] 25)).alloc (.cells #[.string ⟨x.1.toArray⟩, .string ⟨x.2.toArray⟩] 25)).drew = W at t1 t2 t3 t4 hbW ⊢
          have hownW := hown.below hbW
          have hbb := bch hb hbW
          go_wp2_with (at_builtin; refine wpList_append_s _ rfl _ _ rfl w.heap.size _ xs rfl (hownW.alloc _) W.heap.size y.1 rfl (by rw [World.cell?_alloc_new]; rfl) (by omega) (by have := hbb.size; simp; omega) r R.out ?_; intro N2 nc2 w2 hown2 hb2 hg2; have hb3 := (hbb.alloc hbb.size (.cells #[.string ⟨y.1.toArray⟩] 9)).trans hb2; have m1 := own_far hown hbW _ hg2 (Nat.le_refl _) t1; have m2 := own_far hown hbW _ hg2 (Nat.le_refl _) t2; have m3 := own_far hown hbW _ hg2 (Nat.le_succ _) t3; have m4 := own_far hown hbW _ hg2 (Nat.le_succ _) t4)
          go_roundw
          case rel => exact ⟨_, _, N2, _, _, nc2, n, m - 1, x :: xa, xb, r, rfl, rfl, rfl, HN.out, by have := HM.out; simp at this; omega, HR.out, HRB.out, rest_one (by rw [← HD.out]; exact HX.out) R.out, by omega, by omega, by omega, by omega, by have := RL.out; omega, hown2, hb3⟩
          case measure => simp [lenV]; omega
    · obtain ⟨zs, hz⟩ : ∃ zs, zs = xa ++ xb := ⟨_, rfl⟩
      subst hn hm
      have hzd : diffL xa xb = zs.map (·.1) := by
        rw [hz]
        cases xa with
        | nil => simp [diffL]
        | cons x a => cases xb with
          | nil => simp [diffL]
          | cons y b => exact absurd ⟨by simp, by simp⟩ hgo
      have hzl : zs.length = xa.length + xb.length := by rw [hz]; simp
      have hfin := HX.out
      rw [hzd] at hfin
      have HFIN := Lib.hid hfin
      have hcat := drop_world A B c d 22 xa xb wr (hr.below hb) (hq.below hb) (by omega)
      rw [← hz] at hcat
      have HC := Lib.hid hcat
      have HL := Lib.hid hzl
      have hzb : xs.length + zs.length ≤ 200 := by omega
      have HO := Lib.hid hown
      clear hz hzd hzl hfin hcat hr hq hown
      have hsplit : (xa.length = 0) ∨ (0 < xa.length ∧ xb.length = 0) := by
        rcases Nat.eq_zero_or_pos xa.length with h | h
        · exact .inl h
        · exact .inr ⟨h, by
            rcases Nat.eq_zero_or_pos xb.length with k | k
            · exact k
            · exact absurd ⟨h, k⟩ hgo⟩
      clear hgo
      have fin : True := trivial
      rcases hsplit with hs | ⟨hs, hs2⟩
      · have g1 : decide (0 < xa.length) = false := decide_eq_false (by omega)
        have HS := Lib.hid hs
        clear hs
        go_wp2_with fail
        refine HC.out.mono ?_
        rintro e w1 ⟨A2, c2, rfl, ho2, hb2⟩
        have hos := HO.out.below hb2
        have hbz := bch hb hb2
        replace ho2 := ho2.mono hb.size
        clear hb2
        go_wp2_with fail
        go_loopw [5, 54] (fun vn i wr2 => ∃ (k : Nat) (N : Option Addr) (nc : Nat) (ys : List (List UInt8)), k ≤ zs.length ∧ i = .int .i64 k ∧ vn = .slice N ys.length nc ∧ ys = xs ++ (zs.take k).map (·.1) ∧ OwnS wr2 w.heap.size N nc ys ∧ Own wr2 w.heap.size A2 c2 zs ∧ Below w.heap.size w wr2) (fun _ i _ => zs.length - (intOf i).toNat)
        case atStart => exact ⟨0, N, nc, xs, Nat.zero_le _, rfl, rfl, by simp, hos, ho2, hbz⟩
        case round =>
          clear hos ho2 hbz hb
          obtain ⟨k, N, nc, ys, hk, rfl, rfl, hy, hos, ho2, hbz⟩ := hrel
          have hyl : ys.length = xs.length + k := by rw [hy]; simp; omega
          have HY := Lib.hid hy
          have HYL := Lib.hid hyl
          clear hy hyl
          by_cases hlt : k < zs.length
          · obtain ⟨f, hf⟩ : ∃ f, zs[k]? = some f := ⟨_, List.getElem?_eq_getElem hlt⟩
            obtain ⟨b, o, rfl, hcell⟩ := ho2.rd (by omega)
            obtain ⟨c1, c2'⟩ := hcell k f hf
            have HF := Lib.hid hf
            clear hf hcell
            obtain ⟨r, hr0⟩ : ∃ r, ys ++ [f.1] = r := ⟨_, rfl⟩
            have R := Lib.hid hr0
            clear hr0
            go_wp2_with (at_builtin; refine wpList_append_s _ rfl _ _ rfl w.heap.size _ ys rfl ((hos.alloc _).alloc _) (wr.heap.size + 1) f.1 rfl (by rw [World.cell?_alloc_at _ _ _ _ (by simp)]; rfl) (by have := HYL.out; omega) (by have := hbz.size; simp; omega) r R.out ?_; intro N2 nc2 w2 hown2 hb2 hg2)
            go_roundw
            case rel => exact ⟨k + 1, N2, nc2, r, by omega, by go_num, rfl, by rw [← R.out, HY.out, at_take HF.out]; simp, hown2, own_kept ((hos.alloc _).alloc _) ((ho2.alloc _).alloc _) hg2, ((hbz.alloc hbz.size _).alloc (by have := hbz.size; simp; omega) _).trans hb2⟩
            case measure => simp [intOf]; omega
          · go_wp2
            go_ret
            have e := HY.out
            rw [List.take_of_length_le (by omega), HFIN.out] at e
            subst e
            exact ⟨N, nc, rfl, hos, hbz⟩
      · have g2 : decide (0 < xb.length) = false := decide_eq_false (by omega)
        have HS := Lib.hid hs2
        clear hs2
        go_wp2_with fail
        refine HC.out.mono ?_
        rintro e w1 ⟨A2, c2, rfl, ho2, hb2⟩
        have hos := HO.out.below hb2
        have hbz := bch hb hb2
        replace ho2 := ho2.mono hb.size
        clear hb2
        go_wp2_with fail
        go_loopw [5, 54] (fun vn i wr2 => ∃ (k : Nat) (N : Option Addr) (nc : Nat) (ys : List (List UInt8)), k ≤ zs.length ∧ i = .int .i64 k ∧ vn = .slice N ys.length nc ∧ ys = xs ++ (zs.take k).map (·.1) ∧ OwnS wr2 w.heap.size N nc ys ∧ Own wr2 w.heap.size A2 c2 zs ∧ Below w.heap.size w wr2) (fun _ i _ => zs.length - (intOf i).toNat)
        case atStart => exact ⟨0, N, nc, xs, Nat.zero_le _, rfl, rfl, by simp, hos, ho2, hbz⟩
        case round =>
          clear hos ho2 hbz hb
          obtain ⟨k, N, nc, ys, hk, rfl, rfl, hy, hos, ho2, hbz⟩ := hrel
          have hyl : ys.length = xs.length + k := by rw [hy]; simp; omega
          have HY := Lib.hid hy
          have HYL := Lib.hid hyl
          clear hy hyl
          by_cases hlt : k < zs.length
          · obtain ⟨f, hf⟩ : ∃ f, zs[k]? = some f := ⟨_, List.getElem?_eq_getElem hlt⟩
            obtain ⟨b, o, rfl, hcell⟩ := ho2.rd (by omega)
            obtain ⟨c1, c2'⟩ := hcell k f hf
            have HF := Lib.hid hf
            clear hf hcell
            obtain ⟨r, hr0⟩ : ∃ r, ys ++ [f.1] = r := ⟨_, rfl⟩
            have R := Lib.hid hr0
            clear hr0
            go_wp2_with (at_builtin; refine wpList_append_s _ rfl _ _ rfl w.heap.size _ ys rfl ((hos.alloc _).alloc _) (wr.heap.size + 1) f.1 rfl (by rw [World.cell?_alloc_at _ _ _ _ (by simp)]; rfl) (by have := HYL.out; omega) (by have := hbz.size; simp; omega) r R.out ?_; intro N2 nc2 w2 hown2 hb2 hg2)
            go_roundw
            case rel => exact ⟨k + 1, N2, nc2, r, by omega, by go_num, rfl, by rw [← R.out, HY.out, at_take HF.out]; simp, hown2, own_kept ((hos.alloc _).alloc _) ((ho2.alloc _).alloc _) hg2, ((hbz.alloc hbz.size _).alloc (by have := hbz.size; simp; omega) _).trans hb2⟩
            case measure => simp [intOf]; omega
          · go_wp2
            go_ret
            have e := HY.out
            rw [List.take_of_length_le (by omega), HFIN.out] at e
            subst e
            exact ⟨N, nc, rfl, hos, hbz⟩
end Go.Proofs.Ytdaekfigpkogbaa
