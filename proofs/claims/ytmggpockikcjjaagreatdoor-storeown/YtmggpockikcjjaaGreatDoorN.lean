/-
  Append of one text onto a row of texts of one's own; contracts of wire.readAll, wire.All and the document's answer's All: all texts, or the first error.
-/
import Derived.Test.YtmggpockikcjjaaGreatDoorT
import Derived.Test.YtmggpockikcjjaaGreatDoorM
namespace Go.Proofs.YtmggpockikcjjaaGreatDoor
open Go.RowKit

theorem scells_len (xs : List (List UInt8)) : (scells xs).length = xs.length * 1 := by simp [scells]
theorem wpList_append_s {ops : Array Oper} {rest : List Oper} {o : Oper} {a : Act} {Q : Exit → Act → World → Prop} (w : World) (hgd : o.guard = none) (s x : Operand)
    (ho : o.op = .call { callee := .builtin .append, args := #[s, x], argTypes := #[102, 102] }) (base : Nat) (v : Value) (xs : List (List UInt8)) (hs : a.eval s = v) (hown : w.ownsRow base 9 1 v xs.length (scells xs))
    (b : Nat) (t : List UInt8) (hx : a.eval x = .slice (some ⟨b, 0, none⟩) 1 1) (hc : w.cell? ⟨b, 0, none⟩ = some (.string ⟨t.toArray⟩)) (hlen : xs.length + 1 ≤ 200000) (hbase : base ≤ w.heap.size) (r : List (List UInt8)) (hr0 : xs ++ [t] = r)
    (h : ∀ A' c' w', OwnS w' base A' c' r → Below base w w' → w.grownBy w' v.ownBlock → wpList Tryz.prog ops Q rest (a.put o.dst (.slice A' r.length c')) w') : wpList Tryz.prog ops Q (o :: rest) a w := by
  refine wpList_plain hgd fun K hK => ?_
  obtain ⟨i0, hi, hz0, hz1, hz2⟩ := info_parts Tryz.info9
  obtain ⟨v', w', h1, h2, h3, _⟩ := run_append_own (P := Tryz.prog) w base 102 o.type 9 i0 _ 1 16 Tryz.underlying102 hi hz0 hz1 hz2 rfl (by decide) v xs.length (scells xs) hown ⟨b, 0, none⟩ 1 1 [.string ⟨t.toArray⟩] rfl
    (fun j u hj => by
      match j, hj with
      | 0, hj => simp at hj; subst hj; simpa [Addr.add] using hc
      | j + 1, hj => simp at hj) (fun u hu => by simp at hu; subst hu; rfl) (by unfold maxLen; omega) (by omega) hbase
  obtain ⟨A', c', rfl⟩ := own_shape h2
  have e1 : xs.length + 1 = r.length := by rw [← hr0]; simp
  have e2 : scells xs ++ [.string ⟨t.toArray⟩] = scells r := by rw [← hr0]; simp [scells]
  rw [e1] at h1 h2
  rw [e2] at h2
  unfold Oper.wp
  simp only [execOp, ho, resolve, invoke, builtin, Sem.run_bind, Sem.run_pure, Result.andThen_ok, List.map_toArray, List.map_cons, List.map_nil, hs, hx, h1]
  exact hK _ _ (h A' c' w' h2 (below_grown hown h3 hbase) h3)
theorem OwnS.below {w w' : World} {base : Nat} {A : Option Addr} {c : Nat} {xs : List (List UInt8)} (h : OwnS w base A c xs) (hb : Below w.heap.size w w') : OwnS w' base A c xs := by
  refine ⟨h.1, ?_⟩
  rcases h.2 with q | ⟨g, cap, cur, h1, h2, h3, r⟩
  · exact .inl q
  · have hlt : g < w.heap.size := by
      rcases Nat.lt_or_ge g w.heap.size with hlt | hge
      · exact hlt
      · rw [Array.getElem?_eq_none hge] at h3; cases h3
    exact .inr ⟨g, cap, cur, h1, h2, (hb.block g hlt).trans h3, r⟩

theorem own_empty_s (w : World) : OwnS (w.alloc (.cells #[] 9)) w.heap.size (some ⟨w.heap.size, 0, none⟩) 0 [] := World.ownsRow_lit w #[] 0 (Nat.le_refl _) (by unfold maxLen; omega) (by simp)
theorem OwnS.mono {w : World} {base base' : Nat} {A : Option Addr} {c : Nat} {fs : List (List UInt8)} (h : OwnS w base A c fs) (hb : base' ≤ base) : OwnS w base' A c fs := by
  refine ⟨h.1, ?_⟩
  rcases h.2 with q | ⟨g, cap, cur, h1, h2, r⟩
  · exact .inl q
  · exact .inr ⟨g, cap, cur, h1, Nat.le_trans hb h2, r⟩
/-- Texts of the call's own, and what is wrong. -/
def AllRes (w : World) (ts : List (List UInt8)) (v : Value) (e : Ending) (w' : World) : Prop := ∃ A c, e = .returned (.tuple #[.slice A ts.length c, v]) ∧ OwnS w' w.heap.size A c ts ∧ Below w.heap.size w w'
def errV (e : Int) : Value := if e = 0 then .nilIface else .iface 110 (.agg #[.int .i64 e])
def preL (xs : List (List UInt8)) (x : Int × List (List UInt8)) : Int × List (List UInt8) := if x.1 = 0 then (0, xs ++ x.2) else (x.1, [])
theorem pre_start (s : List UInt8) : preL [] (allL (s.drop 0)) = allL s := by
  rw [List.drop_zero]
  unfold preL
  rcases all_codes s.length s (Nat.le_refl _) with h | ⟨h, h2⟩
  · rw [if_pos h, List.nil_append]; exact Prod.ext h.symm rfl
  · rw [if_neg (by rcases h with h | h | h <;> rw [h] <;> decide)]; exact Prod.ext rfl h2.symm
theorem pre_end {s : List UInt8} {xs : List (List UInt8)} {k : Nat} {R : Int × List (List UInt8)} (h : preL xs (allL (s.drop k)) = R) (hk : ¬ k < s.length) : R = (0, xs) := by
  rw [List.drop_of_length_le (by omega), all_nil] at h
  rw [← h]; unfold preL; simp
theorem pre_bad {s : List UInt8} {xs : List (List UInt8)} {k : Nat} {x : Int} {R : Int × List (List UInt8)} (h : preL xs (allL (s.drop k)) = R) (hk : k < s.length) (hg : (gotL (s.drop k) 999999).1 = x) (h0 : x ≠ 0) : R = (x, []) := by
  rw [all_bad (fun q => by have := congrArg List.length q; rw [List.length_drop] at this; simp at this; omega) (by rw [hg]; exact h0), hg] at h
  rw [← h]; unfold preL; rw [if_neg h0]
theorem pre_step {s u r : List UInt8} {xs ys : List (List UInt8)} {k k2 : Nat} {R : Int × List (List UInt8)} (h : preL xs (allL (s.drop k)) = R) (hg : gotL (s.drop k) 999999 = (0, u, r)) (hr : r = s.drop k2) (hy : xs ++ [u] = ys) : preL ys (allL (s.drop k2)) = R := by
  rw [all_step hg, hr] at h
  rw [← h, ← hy]
  unfold preL
  by_cases hz : (allL (s.drop k2)).1 = 0
  · rw [if_pos hz, if_pos hz]; simp
  · rw [if_neg hz, if_neg hz]; simp only; rw [if_neg hz]
theorem got_suffix {s u r : List UInt8} {k m : Nat} (h : gotL (s.drop k) m = (0, u, r)) : r = s.drop (s.length - r.length) ∧ k < s.length - r.length ∧ r.length ≤ s.length := by
  have h1 := (got_is h).1
  have h2 := got_less h
  have hl := congrArg List.length h1
  rw [List.length_drop, List.length_append] at hl
  rw [List.length_drop] at h2
  refine ⟨?_, by omega, by omega⟩
  have h3 : r = s.drop (k + (wputL u).length) := by
    rw [← List.drop_drop, h1, List.drop_append]; simp
  rw [show s.length - r.length = k + (wputL u).length by omega]
  exact h3
theorem errV_bad {x : Int} (h : x ≠ 0) : errV x = .iface 110 (.agg #[.int .i64 x]) := by unfold errV; rw [if_neg h]

set_option maxRecDepth 100000 in
set_option maxHeartbeats 2000000 in
theorem readAll_any (s : List UInt8) (w : World) (hs : s.length ≤ 199999) :
    Calls Tryz.prog 61 #[.string ⟨s.toArray⟩] w (AllRes w (allL s).2 (errV (allL s).1)) := by
  have HS := Lib.hid (pre_start s)
  generalize allL s = R at *
  go_enter Tryz.func61, Tryz.ntmps61
  go_wp2_with fail
  go_loopw [4, 5] (fun vl vat wr => ∃ (k : Nat) (A : Option Addr) (c : Nat) (xs : List (List UInt8)), k ≤ s.length ∧ vat = .int .i64 k ∧ vl = .slice A xs.length c ∧ Hid (preL xs (allL (s.drop k)) = R) ∧ xs.length ≤ k ∧ OwnS wr w.heap.size A c xs ∧ Below w.heap.size w wr)
    (fun _ vat _ => s.length - (intOf vat).toNat)
  case atStart => exact ⟨0, none, 0, [], Nat.zero_le _, rfl, rfl, HS, Nat.zero_le _, World.ownsRow_nil _ _ _ _, Below.refl _ _⟩
  case round =>
    obtain ⟨k, A, c, xs, hk, rfl, rfl, HP, hx, hown, hb⟩ := hrel
    by_cases hlt : k < s.length
    · have C := read_any s k 999999 wr (by omega)
      rcases got_codes (s.drop k) 999999 with h | ⟨h, _⟩
      · obtain ⟨u, hu⟩ : ∃ u, (gotL (s.drop k) 999999).2.1 = u := ⟨_, rfl⟩
        obtain ⟨r, hr⟩ : ∃ r, (gotL (s.drop k) 999999).2.2 = r := ⟨_, rfl⟩
        have hg : gotL (s.drop k) 999999 = (0, u, r) := by rw [← hu, ← hr, ← h]
        obtain ⟨g1, g2, g3⟩ := got_suffix hg
        rw [readR_ok (most := 999999) hk hg] at C
        obtain ⟨k2, hk2⟩ : ∃ k2, s.length - r.length = k2 := ⟨_, rfl⟩
        rw [hk2] at C g1 g2
        have hk2l : k2 ≤ s.length := by omega
        obtain ⟨ys, hy⟩ : ∃ ys, xs ++ [u] = ys := ⟨_, rfl⟩
        have HN := Lib.hid (pre_step HP.out hg g1 hy)
        have HYL := Lib.hid (show ys.length = xs.length + 1 by rw [← hy]; simp)
        have HY := Lib.hid hy
        have C2 := Lib.hid C
        clear C h hu hr hg g1 g3 hk2 HP hy
        go_wp2_with fail
        refine C2.out.mono ?_
        rintro e w' ⟨rfl, rfl⟩
        go_wp2_with (at_builtin; refine wpList_append_s _ rfl _ _ rfl w.heap.size _ xs rfl (hown.alloc _) wr.heap.size u rfl (by rw [World.cell?_alloc_new]; rfl) (by omega) (by have := hb.size; simp; omega) ys HY.out ?_; intro N2 nc2 w2 hown2 hb2 hg2; have hb3 := (hb.alloc hb.size (.cells #[.string ⟨u.toArray⟩] 9)).trans hb2)
        go_roundw
        case rel => exact ⟨k2, N2, nc2, ys, hk2l, rfl, rfl, HN, by have := HYL.out; omega, hown2, hb3⟩
        case measure => simp [intOf]; omega
      · obtain ⟨x, hx0⟩ : ∃ x, (gotL (s.drop k) 999999).1 = x := ⟨_, rfl⟩
        have h0 : x ≠ 0 := by rw [← hx0]; rcases h with h | h | h <;> rw [h] <;> decide
        have hR := pre_bad HP.out hlt hx0 h0
        rw [readR_bad ((getE_in (most := 999999) hk).trans hx0) h0] at C
        have C2 := Lib.hid C
        have H0 := Lib.hid h0
        have HR := Lib.hid hR
        clear C h hx0 HP h0 hR
        go_wp2_with fail
        refine C2.out.mono ?_
        rintro e w' ⟨rfl, rfl⟩
        go_wp2
        go_ret2
        rw [HR.out]
        exact ⟨none, 0, ret_two rfl (errV_bad H0.out).symm, World.ownsRow_nil _ _ _ _, hb⟩
    · have HR := Lib.hid (pre_end HP.out hlt)
      go_wp2
      go_ret2
      rw [HR.out]
      exact ⟨A, c, rfl, hown, hb⟩

set_option maxHeartbeats 400000 in
theorem all_ok (s : List UInt8) (ts : List (List UInt8)) (w : World) (hs : s.length ≤ 199999) (h : allL s = (0, ts)) :
    Calls Tryz.prog 53 #[.string ⟨s.toArray⟩] w (AllRes w ts (.int .i64 0)) := by
  have C := Lib.hid (readAll_any s w hs)
  rw [h] at C
  clear h
  go_enter Tryz.func53, Tryz.ntmps53
  go_wp2_with fail
  refine C.out.mono ?_
  rintro e w1 ⟨A, c, rfl, hown, hb⟩
  go_wp2_with fail
  refine (number_nil _).mono ?_
  rintro e w2 ⟨rfl, hb2⟩
  have hown2 := hown.below hb2
  clear hown
  go_wp2
  go_ret2
  exact ⟨A, c, rfl, hown2, bch hb hb2⟩
end Go.Proofs.YtmggpockikcjjaaGreatDoor
