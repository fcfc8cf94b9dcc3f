/-
  Contracts of wire.readFiles and wire.Parse: the map that bytes are, or what is wrong.
-/
import Derived.Deep.RegionHeld3
import Derived.Test.YtmggpockikcjjaaGreatDoorN
namespace Go.Proofs.YtmggpockikcjjaaGreatDoor
open Go.RowKit

theorem pairL_app : ∀ (n : Nat) (a b : List (List UInt8)), a.length = 2 * n → pairL (a ++ b) = pairL a ++ pairL b
  | 0, a, b, h => by
    have : a = [] := List.eq_nil_of_length_eq_zero (by omega)
    subst this; rfl
  | n + 1, [], b, h => by simp at h
  | n + 1, [x], b, h => by simp at h; omega
  | n + 1, x :: y :: r, b, h => by
    rw [List.cons_append, List.cons_append, pairL, pairL, List.cons_append, pairL_app n r b (by simp at h; omega)]
theorem pair_step {ts : List (List UInt8)} {k : Nat} {x y : List UInt8} (hx : ts[k]? = some x) (hy : ts[k + 1]? = some y) (hk : k % 2 = 0) : pairL (ts.take (k + 2)) = pairL (ts.take k) ++ [(x, y)] := by
  have h1 : k + 1 < ts.length := by
    rcases Nat.lt_or_ge (k + 1) ts.length with q | q
    · exact q
    · rw [List.getElem?_eq_none q] at hy; cases hy
  have e1 : ts.take (k + 2) = ts.take k ++ [x, y] := by
    rw [List.take_add_one, List.take_add_one, hx, hy]; simp
  rw [e1, pairL_app (k / 2) _ _ (by rw [List.length_take]; omega)]
  rfl
theorem pairL_len : ∀ (n : Nat) (a : List (List UInt8)), a.length = 2 * n → (pairL a).length = n
  | 0, a, h => by
    have : a = [] := List.eq_nil_of_length_eq_zero (by omega)
    subst this; rfl
  | n + 1, [], h => by simp at h
  | n + 1, [x], h => by simp at h; omega
  | n + 1, x :: y :: r, h => by rw [pairL, List.length_cons, pairL_len n r (by simp at h; omega)]
theorem catL_len : ∀ ts : List (List UInt8), 3 * ts.length ≤ (catL ts).length
  | [] => by simp
  | t :: ts => by
    rw [catL_cons, List.length_append, List.length_cons]
    have := catL_len ts
    have := wput_len3 t
    omega
theorem catL_mem {ts : List (List UInt8)} {t : List UInt8} (h : t ∈ ts) : t.length ≤ (catL ts).length := by
  induction ts with
  | nil => cases h
  | cons u r ih =>
    rw [catL_cons, List.length_append]
    rcases List.mem_cons.1 h with rfl | h
    · rw [wput_len]; omega
    · have := ih h; omega
theorem pairL_mem : ∀ (n : Nat) (ts : List (List UInt8)), ts.length ≤ n → ∀ f ∈ pairL ts, f.1 ∈ ts ∧ f.2 ∈ ts
  | 0, ts, h, f, hf => by
    have : ts = [] := List.eq_nil_of_length_eq_zero (by omega)
    subst this; simp [pairL] at hf
  | n + 1, [], _, f, hf => by simp [pairL] at hf
  | n + 1, [x], _, f, hf => by simp [pairL] at hf
  | n + 1, x :: y :: r, h, f, hf => by
    rw [pairL, List.mem_cons] at hf
    rcases hf with rfl | hf
    · simp
    · have := pairL_mem n r (by simp at h; omega) f hf
      exact ⟨by simp [this.1], by simp [this.2]⟩
theorem all_fit {s : List UInt8} {ts : List (List UInt8)} (h : allL s = (0, ts)) : 3 * ts.length ≤ s.length ∧ Fit (pairL ts) ∨ 9223372036854775807 < s.length := by
  have hs := all_is s.length s ts (Nat.le_refl _) h
  have hl := catL_len ts
  rw [← hs] at hl
  rcases Nat.lt_or_ge 9223372036854775807 s.length with q | q
  · exact .inr q
  · refine .inl ⟨hl, fun f hf => ?_⟩
    obtain ⟨h1, h2⟩ := pairL_mem ts.length ts (Nat.le_refl _) f hf
    have a1 := catL_mem h1
    have a2 := catL_mem h2
    rw [← hs] at a1 a2
    exact ⟨by omega, by omega⟩

/-- Append of one file onto a row of one's own, at a step of a region that draws its order. -/
theorem step_append_f {ops : Array Oper} {o : Oper} {a : Act} {K : Act → World → Prop} {Q : Exit → Act → World → Prop} {E : Prop} (w : World) (hgd : o.guard = none) (s x : Operand)
    (ho : o.op = .call { callee := .builtin .append, args := #[s, x], argTypes := #[27, 27] }) (base : Nat) (v : Value) (xs : List Fl) (hs : a.eval s = v) (hown : w.ownsRow base 37 2 v xs.length (fcells xs))
    (b : Nat) (f : Fl) (hx : a.eval x = .slice (some ⟨b, 0, none⟩) 1 1) (h1 : w.cell? ⟨b, 0, none⟩ = some (.string ⟨f.1.toArray⟩)) (h2 : w.cell? ⟨b, 1, none⟩ = some (.string ⟨f.2.toArray⟩)) (hlen : xs.length + 1 ≤ 200000) (hbase : base ≤ w.heap.size) (r : List Fl) (hr0 : xs ++ [f] = r)
    (h : ∀ A' c' w', Own w' base A' c' r → Below base w w' → K (a.put o.dst (.slice A' r.length c')) w') : if Region.wanted o (yielded ops a.tmps) = true then Oper.wp Tryz.prog o a w K Q else E := by
  obtain ⟨i0, hi, hz0, hz1, hz2⟩ := info_parts Tryz.info37
  refine step_append_lies w hgd s x 27 ho base 37 i0 _ 2 32 Tryz.underlying27 hi hz0 hz1 hz2 rfl (by decide) v xs.length (fcells xs) hs hown ⟨b, 0, none⟩ 1 1 [.string ⟨f.1.toArray⟩, .string ⟨f.2.toArray⟩] hx rfl ?_ ?_ (by decide) (by unfold maxLen; omega) (by omega) hbase w.heap.size rfl ?_
  · intro j u hj
    match j, hj with
    | 0, hj => simp at hj; subst hj; simpa [Addr.add] using h1
    | 1, hj => simp at hj; subst hj; simpa [Addr.add] using h2
    | j + 2, hj => simp at hj
  · intro u hu
    simp at hu
    rcases hu with rfl | rfl <;> rfl
  · intro g cap w' hown' hgrow _ _
    have e1 : xs.length + 1 = r.length := by rw [← hr0]; simp
    have e2 : fcells xs ++ [.string ⟨f.1.toArray⟩, .string ⟨f.2.toArray⟩] = fcells r := by rw [← hr0, fcells_app]; rfl
    rw [e1] at hown' ⊢
    rw [e2] at hown'
    exact h _ _ _ hown' (below_grown hown hgrow hbase)

set_option maxRecDepth 100000 in
set_option maxHeartbeats 2000000 in
theorem readFiles_any (s : List UInt8) (w : World) (hs : s.length ≤ 199999) :
    Calls Tryz.prog 47 #[.string ⟨s.toArray⟩] w (Res2 w (parseL s).2 (errV (parseL s).1)) := by
  have C := Lib.hid (readAll_any s w hs)
  rcases parse_ways s with ⟨h, e⟩ | ⟨ts, ha, hw⟩
  · obtain ⟨x, hx⟩ : ∃ x, (allL s).1 = x := ⟨_, rfl⟩
    have h2 : (allL s).2 = [] := by
      rcases all_codes s.length s (Nat.le_refl _) with k | ⟨_, k⟩
      · exact absurd k h
      · exact k
    rw [e]
    rw [hx] at h
    rw [hx, h2, errV_bad h] at C
    rw [hx]
    simp only
    rw [errV_bad h]
    clear h2 hx e h
    go_enter Tryz.func47, Tryz.ntmps47
    go_wp2_with fail
    refine C.out.mono ?_
    rintro e w1 ⟨A, c, rfl, hown, hb⟩
    go_wp2
    go_ret2
    exact ⟨none, 0, rfl, World.ownsRow_nil _ _ _ _, hb⟩
  have hfit : 3 * ts.length ≤ s.length ∧ Fit (pairL ts) := by
    rcases all_fit ha with q | q
    · exact q
    · omega
  obtain ⟨hl3, hfit⟩ := hfit
  rw [ha] at C
  rw [show errV (0 : Int) = .nilIface from rfl] at C
  have HO1 : ts.length % 2 ≠ 0 ∨ ts.length % 2 = 0 := by omega
  rcases HO1 with ho | ho
  · have e : parseL s = (5, []) := parse_odd ha ho
    rw [e]
    have q1 : ((ts.length : Int) % 2 != 0) = true := by simp; omega
    clear e ha ho hw
    go_enter Tryz.func47, Tryz.ntmps47
    go_wp2_with fail
    refine C.out.mono ?_
    rintro e w1 ⟨A, c, rfl, hown, hb⟩
    go_wp2
    go_ret2
    exact ⟨none, 0, rfl, World.ownsRow_nil _ _ _ _, hb⟩
  · have HV : Hid (parseL s = if rightB (pairL ts) = true then (0, pairL ts) else (5, [])) := Lib.hid (by
      cases hr : rightB (pairL ts)
      · rw [parse_wrong ha ho hr]; rfl
      · rw [parse_ok ha ho hr]; rfl)
    generalize parseL s = V at HV ⊢
    have q1 : ((ts.length : Int) % 2 != 0) = false := by simp; omega
    have HO := Lib.hid ho
    clear ha ho hw
    go_enter Tryz.func47, Tryz.ntmps47
    go_wp2_with fail
    refine C.out.mono ?_
    rintro e w1 ⟨A, c, rfl, hown, hb⟩
    have hrd := hown.rd
    clear hown
    go_wp2_with fail
    go_loopw [6, 7] (fun vl vi wr => ∃ (k : Nat) (B : Option Addr) (d : Nat) (xs : List Fl), k ≤ ts.length ∧ vi = .int .i64 k ∧ vl = .slice B xs.length d ∧ Hid (pairL (ts.take k) = xs ∧ k % 2 = 0 ∧ xs.length ≤ k) ∧ Own wr w1.heap.size B d xs ∧ Below w1.heap.size w1 wr)
      (fun _ vi _ => ts.length - (intOf vi).toNat)
    case atStart => exact ⟨0, none, 0, [], Nat.zero_le _, rfl, rfl, Lib.hid ⟨rfl, rfl, Nat.le_refl _⟩, World.ownsRow_nil _ _ _ _, Below.refl _ _⟩
    case round =>
      obtain ⟨k, B, d, xs, hk, rfl, rfl, HP, hown, hb1⟩ := hrel
      by_cases hlt : k < ts.length
      · have hlt2 : k + 1 < ts.length := by have := HP.out.2.1; have := HO.out; omega
        obtain ⟨b, o, rfl, hcell⟩ := hrd (by omega)
        obtain ⟨x, hx⟩ : ∃ x, ts[k]? = some x := ⟨_, List.getElem?_eq_getElem hlt⟩
        obtain ⟨y, hy⟩ : ∃ y, ts[k + 1]? = some y := ⟨_, List.getElem?_eq_getElem hlt2⟩
        have K1 := Lib.hid (hcell k x hx)
        have K2 := Lib.hid (hcell (k + 1) y hy)
        have c1 := cell_below hb1 K1.out
        have c2 := cell_below hb1 K2.out
        obtain ⟨ys, hys⟩ : ∃ ys, xs ++ [(x, y)] = ys := ⟨_, rfl⟩
        have HN := Lib.hid (show pairL (ts.take (k + 2)) = ys ∧ (k + 2) % 2 = 0 ∧ ys.length ≤ k + 2 by
          refine ⟨by rw [pair_step hx hy HP.out.2.1, HP.out.1, hys], by have := HP.out.2.1; omega, ?_⟩
          rw [← hys, List.length_append]; have := HP.out.2.2; simp; omega)
        have HY := Lib.hid hys
        have hxl : xs.length ≤ 100000 := by have := HP.out.2.2; omega
        have i1 : (k : Int) < (ts.length : Int) := by omega
        have i2 : (k : Int) + 1 < (ts.length : Int) := by omega
        have i3 : (0 : Int) ≤ (k : Int) + 1 := by omega
        have i4 : ((k : Int) + 1).toNat = k + 1 := by omega
        have HD := Lib.hid hrd
        clear hx hy hcell HP hys hrd
        go_wp2_with fail
        have f0 : IntKind.i64.wrap ((k : Int) + 1) = (k : Int) + 1 := IntWalk.i64_in _ (by omega)
        go_region_held3 (fun w' => w'.cell? ⟨b, o + k, none⟩ = some (.string ⟨x.toArray⟩) ∧ w'.cell? ⟨b, o + (k + 1), none⟩ = some (.string ⟨y.toArray⟩)) (first | go_keep | exact ⟨cell_below hbb K1.out, cell_below hbb K2.out⟩)
          ((refine step_append_f (wr.drew.alloc (.cells #[.string ⟨x.toArray⟩, .string ⟨y.toArray⟩] 37)) (by rfl) _ _ (by rfl) w1.heap.size _ xs (by rfl) ((hown.below (below_drew wr)).alloc _) wr.heap.size (x, y) (by rfl) (new_fst wr.drew _ _ _) (new_snd wr.drew _ _ _) (by omega) (by have := hb1.size; simp; omega) ys HY.out ?_; intro B1 d1 w3 hown2 hb3; have hbb := ((bch hb1 (below_drew wr)).alloc (by have := hb1.size; simp; omega) (.cells #[.string ⟨x.toArray⟩, .string ⟨y.toArray⟩] 37)).trans hb3))
        clear f0 c1 c2
        go_wp2_with fail
        go_roundw
        case rel => exact ⟨k + 2, B1, d1, ys, by omega, by go_num, rfl, HN, hown2, hbb⟩
        case measure => simp [intOf]; omega
      · obtain rfl : k = ts.length := by omega
        have hxs : pairL ts = xs := by have := HP.out.1; rwa [List.take_length] at this
        have hfx : Fit xs := by rw [← hxs]; exact hfit
        have hxl : xs.length ≤ 100000 := by have := HP.out.2.2; omega
        rw [hxs] at HV
        have C2 := Lib.hid (right_any B d xs wr hown.rd hxl hfx)
        clear HP hxs hfit hfx
        cases hr : rightB xs
        · rw [hr] at C2 HV
          have HV2 := Lib.hid (show V = (5, []) from HV.out)
          clear hr HV
          go_wp2_with fail
          refine C2.out.mono ?_
          rintro e w2 ⟨rfl, hb2⟩
          go_wp2
          go_ret2
          rw [HV2.out]
          exact ⟨none, 0, rfl, World.ownsRow_nil _ _ _ _, bch hb (bch hb1 hb2)⟩
        · rw [hr] at C2 HV
          have HV2 := Lib.hid (show V = (0, xs) from HV.out)
          clear hr HV
          go_wp2_with fail
          refine C2.out.mono ?_
          rintro e w2 ⟨rfl, hb2⟩
          have hown2 := hown.below hb2
          clear hown
          go_wp2
          go_ret2
          rw [HV2.out]
          exact ⟨B, d, rfl, hown2.mono hb.size, bch hb (bch hb1 hb2)⟩

set_option maxHeartbeats 400000 in
theorem parse_yes (s : List UInt8) (fs : List Fl) (w : World) (hs : s.length ≤ 199999) (h : parseL s = (0, fs)) :
    Calls Tryz.prog 31 #[.string ⟨s.toArray⟩] w (Res2 w fs (.int .i64 0)) := by
  have C := Lib.hid (readFiles_any s w hs)
  rw [h] at C
  clear h
  go_enter Tryz.func31, Tryz.ntmps31
  go_wp2_with fail
  refine C.out.mono ?_
  rintro e w1 ⟨A, c, rfl, hown, hb⟩
  go_wp2_with fail
  refine (number_nil _).mono ?_
  rintro e w2 ⟨rfl, hb2⟩
  have hown2 := hown.below hb2
  clear hown
  go_wp2
  go_ret2
  exact ⟨A, c, rfl, hown2, bch hb hb2⟩
end Go.Proofs.YtmggpockikcjjaaGreatDoor
