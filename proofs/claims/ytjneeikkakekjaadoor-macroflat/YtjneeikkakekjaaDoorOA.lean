/-
  The walk of MacroFlat: for every input it returns true; old memory stays.
-/
import Derived.Test.YtjneeikkakekjaaDoorNU
namespace Go.Proofs.YtjneeikkakekjaaDoor
open Go.RowKit

theorem app_list (a b : ByteArray) : (a ++ b).data.toList = a.data.toList ++ b.data.toList := by simp
theorem raw_len {B : Nat} : ∀ {l : List Tok}, (∀ t ∈ l, t.2.length ≤ B) → (rawL l).length ≤ l.length * (B + 1)
  | [], _ => by simp [rawL]
  | a :: r, h => by
    have ih := raw_len (B := B) (l := r) (fun t ht => h t (List.mem_cons_of_mem _ ht))
    have h1 : (rawT a).length ≤ B + 1 := by
      have := h a (by simp)
      unfold rawT
      split
      · omega
      · split <;> simp
    rw [show rawL (a :: r) = rawT a ++ rawL r from by simp [rawL], List.length_append, List.length_cons, Nat.succ_mul]
    omega
theorem flat_size {B : Nat} {l : List Tok} (h : ∀ t ∈ l, t.2.length ≤ B) : (flatL l).length ≤ l.length * (B + 1) := Nat.le_trans (flat_len l) (raw_len h)
theorem ends_nat {l : By} (h0 : l.head? ≠ some 32) (h1 : l.getLast? ≠ some 32) {m : Nat} (hm : l.length = m + 1) :
    ∃ (p0 : 0 < (ByteArray.mk l.toArray).size) (p1 : m < (ByteArray.mk l.toArray).size), ∃ x y : Int, (((ByteArray.mk l.toArray)[0]'p0).toNat : Int) = x ∧ (((ByteArray.mk l.toArray)[m]'p1).toNat : Int) = y ∧ (x == 32) = false ∧ (y == 32) = false := by
  have p0 : 0 < l.length := by omega
  have p1 : m < l.length := by omega
  refine ⟨p0, p1, _, _, rfl, rfl, ?_, ?_⟩
  · rw [beq_eq_false_iff_ne]
    intro e
    refine h0 ?_
    rw [List.head?_eq_getElem?, List.getElem?_eq_getElem p0]
    exact congrArg some ((int_ne (show ((l[0]'p0).toNat : Int) = _ from rfl)).2 e)
  · rw [beq_eq_false_iff_ne]
    intro e
    refine h1 ?_
    rw [List.getLast?_eq_getElem?, show l.length - 1 = m by omega, List.getElem?_eq_getElem p1]
    exact congrArg some ((int_ne (show ((l[m]'p1).toNat : Int) = _ from rfl)).2 e)
set_option maxRecDepth 100000 in
set_option maxHeartbeats 8000000 in
theorem macroFlat_walk (A B : Option Addr) (c d : Nat) (xs ys : List Tok) (w : World) (hr : Rd w A xs) (hq : Rd w B ys) (hl : xs.length ≤ 9223372036854775807) (hfit : Hid (∀ t ∈ xs, t.2.length ≤ 9223372036854775807)) (hl2 : ys.length ≤ 9223372036854775807) (hfit2 : Hid (∀ t ∈ ys, t.2.length ≤ 9223372036854775807)) :
    Calls Tryd.prog 7 #[.slice A xs.length c, .slice B ys.length d] w fun e w' => e = .returned (.bool true) ∧ Below w.heap.size w w' := by
  have C1 := Lib.hid (lcut_any A c 30 xs w hr hl hfit (by omega))
  have C2 := Lib.hid (fun w (hq : Rd w B ys) => lcut_any B d 30 ys w hq hl2 hfit2 (by omega))
  have h1 := cut_len 30 xs
  have h2 := cut_len 30 ys
  have m1 := cut_mild 30 xs
  have m2 := cut_mild 30 ys
  generalize cutL 30 xs = cs at *
  generalize cutL 30 ys = ds at *
  have z1 : (flatL cs).length ≤ 30 * 41 := Nat.le_trans (flat_size m1) (Nat.mul_le_mul_right _ h1)
  have z2 : (flatL ds).length ≤ 30 * 41 := Nat.le_trans (flat_size m2) (Nat.mul_le_mul_right _ h2)
  obtain ⟨k1, k2⟩ := flat_ends cs
  have F1 := Lib.hid (fun A c w (hr : Rd w A cs) => flat_any A c cs w hr (Lib.hid fun t ht => by have := m1 t ht; omega) (by omega))
  have F2 := Lib.hid (fun A c w (hr : Rd w A ds) => flat_any A c ds w hr (Lib.hid fun t ht => by have := m2 t ht; omega) (by omega))
  have F4 := Lib.hid (fun A c w (hr : Rd w A [(1, flatL cs)]) => flat_any A c [(1, flatL cs)] w hr (Lib.hid fun t ht => by simp at ht; subst ht; show (flatL cs).length ≤ _; omega) (by simp))
  rw [flat_twice] at F4
  obtain ⟨all, hall⟩ : ∃ all, cs ++ [((2 : Int), ([] : By))] ++ ds = all := ⟨_, rfl⟩
  obtain ⟨a1, ha1⟩ : ∃ a1, cs ++ [((2 : Int), ([] : By))] = a1 := ⟨_, rfl⟩
  rw [ha1] at hall
  have H1 := Lib.hid ha1
  have H2 := Lib.hid hall
  have la1 : a1.length ≤ 31 := by rw [← ha1]; simp; omega
  have lall : all.length ≤ 61 := by rw [← hall, List.length_append]; omega
  have F3 := Lib.hid (fun A c w (hr : Rd w A all) => flat_any A c all w hr (Lib.hid fun t ht => by
    rw [← hall, ← ha1] at ht
    rcases List.mem_append.1 ht with ht | ht
    · rcases List.mem_append.1 ht with ht | ht
      · have := m1 t ht; omega
      · simp at ht; subst ht; simp
    · have := m2 t ht; omega) (by omega))
  have hft : flatL all = if flatL cs = [] ∨ flatL ds = [] then flatL cs ++ flatL ds else flatL cs ++ 32 :: flatL ds := by
    rw [← hall, ← ha1, List.append_assoc, List.singleton_append]; exact flat_two cs ds []
  generalize flatL all = fc at *
  generalize flatL cs = fa at *
  generalize flatL ds = fb at *
  have HQ := Lib.hid hq
  clear hall ha1 m1 m2 hq hr
  have hways : (fa = [] ∧ fc = fb) ∨ (fb = [] ∧ fc = fa ∧ ∃ m, fa.length = m + 1) ∨ (fb ≠ [] ∧ fc = fa ++ [32] ++ fb ∧ ∃ m, fa.length = m + 1) := by
    by_cases e1 : fa = []
    · left; rw [hft, e1]; simp
    · have hm : ∃ m, fa.length = m + 1 := ⟨fa.length - 1, by have := List.length_pos_iff.2 e1; omega⟩
      by_cases e2 : fb = []
      · right; left; exact ⟨e2, by rw [hft, e2]; simp, hm⟩
      · right; right; exact ⟨e2, by rw [hft]; simp [e1, e2], hm⟩
  clear hft
  have W : ∀ (P : Prop), P → True := fun _ _ => trivial
  clear W
  have q1 : (fa == fa) = true := by simp
  have q2 : (fa != fa) = false := by simp
  have hsum : ¬ 9223372036854775807 < fa.length + fb.length := by omega
  have hsum1 : ¬ 9223372036854775807 < fa.length + 1 := by omega
  have hsum2 : ¬ 9223372036854775807 < fa.length + 1 + fb.length := by omega
  have HV := Lib.hid hways
  have HK := Lib.hid (And.intro k1 k2)
  clear hways k1 k2
  go_enter Tryd.func7, Tryd.ntmps7
  go_wp2_with fail
  refine C1.out.mono ?_
  rintro e w1 ⟨A1, c1, rfl, ho, hb⟩
  have R1 := Lib.hid ho.rd
  have HB := Lib.hid hb
  replace HQ := Lib.hid (HQ.out.below hb)
  clear hb ho C1
  go_wp2_with fail
  refine (C2.out _ HQ.out).mono ?_
  rintro e w2 ⟨A2, c2, rfl, ho, hb⟩
  replace R1 := Lib.hid (R1.out.below hb)
  have R2 := Lib.hid ho.rd
  replace HB := Lib.hid (bch HB.out hb)
  clear hb ho C2 HQ
  go_wp2_with fail
  refine (F1.out _ _ _ R1.out).mono ?_
  rintro e w3 ⟨rfl, hb⟩
  replace R1 := Lib.hid (R1.out.below hb)
  replace R2 := Lib.hid (R2.out.below hb)
  replace HB := Lib.hid (bch HB.out hb)
  clear hb F1
  go_wp2_with fail
  refine (F2.out _ _ _ R2.out).mono ?_
  rintro e w4 ⟨rfl, hb⟩
  replace R1 := Lib.hid (R1.out.below hb)
  replace R2 := Lib.hid (R2.out.below hb)
  replace HB := Lib.hid (bch HB.out hb)
  have HO := Lib.hid (own_empty 41 w4)
  have HW := Lib.hid (one_below w4 (.cells #[] 41))
  clear hb F2
  go_wp2_with (at_builtin; first
    | (refine wpList_append_rdn37 _ rfl (.tmp 17) (.tmp 18) rfl w4.heap.size _ [] rfl HO.out A1 cs.length c1 cs rfl rfl (R1.out.below HW.out) (by show 0 + cs.length ≤ _; omega) HW.out.size cs rfl ?_
       intro B1 d1 w5 ho1 hb1
       have HW5 := Lib.hid (HW.out.trans hb1)
       have HO5 := Lib.hid ho1
       have o2 := one_below w5 (.cells #[.int .i64 2, .string ⟨#[]⟩] 41)
       have HW6 := Lib.hid (HW5.out.trans (o2.mono HW5.out.size))
       have HO6 := Lib.hid (ho1.below o2)
       have HT6 := Lib.hid (one_read (f := ((2 : Int), ([] : By))) (new_fst w5 (.int .i64 2) (.string ⟨#[]⟩) 41) (new_snd w5 (.int .i64 2) (.string ⟨#[]⟩) 41))
       clear ho1 hb1 o2 HO HW)
    | (refine wpList_append_rdn37 _ rfl (.tmp 20) (.tmp 22) rfl w4.heap.size _ cs rfl HO6.out (some ⟨w5.heap.size, 0, none⟩) 1 1 [(2, [])] rfl rfl HT6.out (by show cs.length + 1 ≤ _; omega) HW6.out.size a1 H1.out ?_
       intro B2 d2 w6 ho2 hb2
       have HO7 := Lib.hid ho2
       have HW7 := Lib.hid (HW6.out.trans hb2)
       clear ho2 hb2 HO6 HW6 HT6)
    | (refine wpList_append_rdn37 _ rfl (.tmp 24) (.tmp 25) rfl w4.heap.size _ a1 rfl HO7.out A2 ds.length c2 ds rfl rfl (R2.out.below HW7.out) (by omega) HW7.out.size all H2.out ?_
       intro B3 d3 w7 ho3 hb3
       have RA := Lib.hid ho3.rd
       have HW8 := Lib.hid (HW7.out.trans hb3)
       clear ho3 hb3 HO7 HW7))
  replace HB := Lib.hid (bch HB.out HW8.out)
  clear HW8 HW5 HO5 R1 R2
  refine (F3.out _ _ _ RA.out).mono ?_
  rintro e w8 ⟨rfl, hb⟩
  replace HB := Lib.hid (bch HB.out hb)
  have o3 := one_below w8 (.cells #[.int .i64 1, .string ⟨fa.toArray⟩] 41)
  have R4 := Lib.hid (one_read (f := ((1 : Int), fa)) (new_fst w8 (.int .i64 1) (.string ⟨fa.toArray⟩) 41) (new_snd w8 (.int .i64 1) (.string ⟨fa.toArray⟩) 41))
  replace HB := Lib.hid (bch HB.out o3)
  clear hb F3 o3 RA
  go_wp2_with fail
  refine (F4.out _ _ _ R4.out).mono ?_
  rintro e w9 ⟨rfl, hb⟩
  replace HB := Lib.hid (bch HB.out hb)
  clear hb F4 R4
  have HZ := Lib.hid (And.intro z1 z2)
  clear z1 z2 h1 h2 la1 lall hl hfit hl2 hfit2 hsum hsum1 hsum2 q1 q2
  rcases HV.out with ⟨h1, h2⟩ | ⟨h1, h2, m, hm⟩ | ⟨hb0, h2, m, hm⟩
  · have q1 : (fa == fa) = true := by simp
    have q2 : (fa != fa) = false := by simp
    have z1 : fa.length ≤ 0 := by rw [h1]; simp
    have z2 := HZ.out.2
    have hs0 : ¬ 9223372036854775807 < fa.length + fb.length := by omega
    have e1 : fa.isEmpty = true := by rw [h1]; rfl
    have e2 : (fa == []) = true := by rw [h1]; rfl
    have e3 : (fc == (({ data := fa.toArray } : ByteArray) ++ { data := fb.toArray }).toList) = true := by
      rw [beq_iff_eq, ByteArray.toList_eq, app_list, h1, h2]; rfl
    clear h1 h2
    go_wp2_with fail
    refine (fixed_any _).mono ?_
    rintro e w10 ⟨rfl, hb⟩
    replace HB := Lib.hid (bch HB.out hb)
    clear hb
    go_wp2
    go_ret
    exact ⟨rfl, HB.out⟩
  · obtain ⟨p0, p1, x, y, hx, hy, hx2, hy2⟩ := ends_nat HK.out.1 HK.out.2 hm
    have q1 : (fa == fa) = true := by simp
    have q2 : (fa != fa) = false := by simp
    have z1 := HZ.out.1
    have z2 : fb.length ≤ 0 := by rw [h1]; simp
    have hs0 : ¬ 9223372036854775807 < fa.length + fb.length := by omega
    have i0 : (0 : Int) < (fa.length : Int) := by omega
    have f0 : IntKind.i64.wrap ((fa.length : Int) - 1) = (m : Int) := by rw [IntWalk.i64_in _ (by omega)]; omega
    have f1 : (fa.length : Int) - 1 = (m : Int) := by omega
    have f2 : IntKind.i64.wrap (m : Int) = (m : Int) := IntWalk.i64_in _ (by omega)
    have i2 : (m : Int) < (fa.length : Int) := by omega
    have e1 : fa.isEmpty = false := by cases fa with | nil => simp at hm | cons a r => rfl
    have e2 : (fa == []) = false := by cases fa with | nil => simp at hm | cons a r => rfl
    have e4 : fb.isEmpty = true := by rw [h1]; rfl
    have e5 : (fb == []) = true := by rw [h1]; rfl
    have e3 : (fc == (({ data := fa.toArray } : ByteArray) ++ { data := fb.toArray }).toList) = true := by
      rw [beq_iff_eq, ByteArray.toList_eq, app_list, h1, h2]; simp
    have HM := Lib.hid hm
    clear h1 h2 hm
    go_wp2_with fail
    refine (fixed_any _).mono ?_
    rintro e w10 ⟨rfl, hb⟩
    replace HB := Lib.hid (bch HB.out hb)
    clear hb
    go_wp2
    go_ret
    exact ⟨rfl, HB.out⟩
  · obtain ⟨p0, p1, x, y, hx, hy, hx2, hy2⟩ := ends_nat HK.out.1 HK.out.2 hm
    have q1 : (fa == fa) = true := by simp
    have q2 : (fa != fa) = false := by simp
    have z1 := HZ.out.1
    have z2 := HZ.out.2
    have hs0 : ¬ 9223372036854775807 < fa.length + 1 := by omega
    have hs1 : ¬ 9223372036854775807 < fa.length + 1 + fb.length := by omega
    have hs2 : ¬ 9223372036854775807 < fa.length + (1 + fb.length) := by omega
    have i0 : (0 : Int) < (fa.length : Int) := by omega
    have f0 : IntKind.i64.wrap ((fa.length : Int) - 1) = (m : Int) := by rw [IntWalk.i64_in _ (by omega)]; omega
    have f1 : (fa.length : Int) - 1 = (m : Int) := by omega
    have f2 : IntKind.i64.wrap (m : Int) = (m : Int) := IntWalk.i64_in _ (by omega)
    have i2 : (m : Int) < (fa.length : Int) := by omega
    have e1 : fa.isEmpty = false := by cases fa with | nil => simp at hm | cons a r => rfl
    have e2 : (fa == []) = false := by cases fa with | nil => simp at hm | cons a r => rfl
    have e4 : fb.isEmpty = false := by cases fb with | nil => exact absurd rfl hb0 | cons a r => rfl
    have e5 : (fb == []) = false := by cases fb with | nil => exact absurd rfl hb0 | cons a r => rfl
    have e3 : (fc == ((({ data := fa.toArray } : ByteArray) ++ { data := #[32] }) ++ { data := fb.toArray }).toList) = true := by
      rw [beq_iff_eq, ByteArray.toList_eq, app_list, app_list, h2]
    have HM := Lib.hid hm
    clear h2 hm hb0
    go_wp2_with fail
    refine (fixed_any _).mono ?_
    rintro e w10 ⟨rfl, hb⟩
    replace HB := Lib.hid (bch HB.out hb)
    clear hb
    go_wp2
    go_ret
    exact ⟨rfl, HB.out⟩
end Go.Proofs.YtjneeikkakekjaaDoor
