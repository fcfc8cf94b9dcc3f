/-
  The contract of the document's own answer: Right.
-/
import Derived.Test.YtcfhjnidcmenkaaX
namespace Go.Proofs.Ytcfhjnidcmenkaa
open Go.RowKit

theorem tok40x (w : World) (a b : Value) : (w.alloc (.cells #[a, b] 40)).heap[w.heap.size]? = some (.cells #[a, b] 40) := heap_alloc_new w _
theorem tok40y (w : World) (o : Obj) (a b : Value) : ((w.alloc o).alloc (.cells #[a, b] 40)).heap[w.heap.size + 1]? = some (.cells #[a, b] 40) := by
  have := heap_alloc_new (w.alloc o) (.cells #[a, b] 40)
  rwa [show (w.alloc o).heap.size = w.heap.size + 1 by simp] at this
theorem next_ways (μ κ : Int) (y z : By) :
    ((μ == 1) = true ∧ (κ == 1) = true ∧ nextB (μ, y) (κ, z) = false) ∨ ((μ == 1) = true ∧ (κ == 1) = false ∧ gapB μ = false ∧ (μ == 4) = false ∧ nextB (μ, y) (κ, z) = true) ∨
    ((μ == 1) = false ∧ gapB μ = true ∧ gapB κ = true ∧ nextB (μ, y) (κ, z) = false) ∨ ((μ == 1) = false ∧ gapB μ = true ∧ gapB κ = false ∧ (μ == 4) = false ∧ nextB (μ, y) (κ, z) = true) ∨
    ((μ == 1) = false ∧ gapB μ = false ∧ (μ == 4) = true ∧ (κ == 1) = true ∧ nextB (μ, y) (κ, z) = !(hdB ltr z)) ∨ ((μ == 1) = false ∧ gapB μ = false ∧ (μ == 4) = true ∧ (κ == 1) = false ∧ nextB (μ, y) (κ, z) = true) ∨
    ((μ == 1) = false ∧ gapB μ = false ∧ (μ == 4) = false ∧ nextB (μ, y) (κ, z) = true) := by
  unfold nextB
  simp only
  by_cases h1 : μ = 1
  · subst h1
    cases hk : (κ == 1) <;> simp [gapB]
  · have e1 : (μ == 1) = false := by simpa using h1
    rw [e1]
    cases hg : gapB μ
    · cases h4 : (μ == 4)
      · simp
      · cases hk : (κ == 1) <;> simp
    · have e4 : (μ == 4) = false := by
        rw [beq_eq_false_iff_ne]; intro e; subst e; cases hg
      rw [e4]
      cases hk : gapB κ <;> simp
set_option maxRecDepth 100000 in
set_option maxHeartbeats 4000000 in
theorem rright_any (A : Option Addr) (c : Nat) (ts : List Tok) (w : World) (hr : Rd w A ts) (hm : Hid (Mild ts)) (hl : ts.length ≤ 200000) :
    Calls Try.prog 17 #[.slice A ts.length c] w fun e w' => e = .returned (.bool (rightL ts)) ∧ Below w.heap.size w w' := by
  obtain ⟨V, hV⟩ : ∃ V, rightL ts = V := ⟨_, rfl⟩
  rw [hV]
  have HV := Lib.hid hV
  clear hV
  go_enter Try.func17, Try.ntmps17
  go_wp2_with fail
  go_loopw [3] (fun i wr => ∃ (k : Nat), k ≤ ts.length ∧ i = .int .i64 k ∧ Hid (rightL (ts.take k) = true) ∧ Below w.heap.size w wr) (fun i _ => ts.length - (intOf i).toNat)
  case atStart => exact ⟨0, Nat.zero_le _, rfl, Lib.hid rfl, Below.refl _ _⟩
  case round =>
    obtain ⟨k, hk, rfl, HR, hb⟩ := hrel
    by_cases hlt : k < ts.length
    · obtain ⟨b, o, rfl, hcell⟩ := (hr.below hb) (by omega)
      obtain ⟨f, hf⟩ : ∃ f, ts[k]? = some f := ⟨_, List.getElem?_eq_getElem hlt⟩
      obtain ⟨c1, c2⟩ := hcell k f hf
      have lz := hm.out f (List.mem_of_getElem? hf)
      obtain ⟨κ, z⟩ := f
      simp only at c1 c2 lz
      have C := Lib.hid (rmay_any κ z wr (by omega))
      have i1 : (k : Int) < (ts.length : Int) := by omega
      cases hv : mayB (κ, z)
      · rw [hv] at C
        have HE := Lib.hid ((right_may hf hv).symm.trans HV.out)
        have HB := Lib.hid hb
        clear hf hcell hv HR hb
        go_wp2_with fail
        refine C.out.mono ?_
        rintro e w1 ⟨rfl, hb2⟩
        go_wp2
        go_ret
        exact ⟨ret_bool HE.out, bch HB.out hb2⟩
      · rw [hv] at C
        by_cases hk0 : k = 0
        · have q0 : ((k : Int) == 0) = true := by rw [hk0]; rfl
          have HN := Lib.hid (show rightL (ts.take (k + 1)) = true by
            subst hk0
            exact right_first hf hv)
          have HB := Lib.hid hb
          have hk1 : (k : Int) = 0 := by omega
          clear hf hcell hv HR hb hk1
          have HK := Lib.hid hk0
          clear hk0
          go_wp2_with fail
          refine C.out.mono ?_
          rintro e w1 ⟨rfl, hb2⟩
          have HB2 := Lib.hid (bch HB.out hb2)
          clear hb2 HB C c1 c2
          go_wp2
          go_roundw
          case rel => exact ⟨k + 1, by omega, by go_num, HN, HB2.out⟩
          case measure => simp [intOf]; omega
        · have q0 : ((k : Int) == 0) = false := by rw [beq_eq_false_iff_ne]; omega
          obtain ⟨j, hj⟩ : ∃ j, k = j + 1 := ⟨k - 1, by omega⟩
          obtain ⟨g, hg⟩ : ∃ g, ts[j]? = some g := ⟨_, List.getElem?_eq_getElem (by omega)⟩
          obtain ⟨g1, g2⟩ := hcell j g hg
          have lg := hm.out g (List.mem_of_getElem? hg)
          obtain ⟨μ, y⟩ := g
          simp only at g1 g2 lg
          have HG := Lib.hid (And.intro hg hf)
          have HM := Lib.hid hv
          have HC := Lib.hid (And.intro (And.intro g1 g2) (And.intro c1 c2))
          have i2 : (j : Int) < (ts.length : Int) := by omega
          have f0 : IntKind.i64.wrap ((k : Int) - 1) = (j : Int) := by rw [IntWalk.i64_in _ (by omega)]; omega
          have f1 : (k : Int) - 1 = (j : Int) := by omega
          have f2 : IntKind.i64.wrap (j : Int) = (j : Int) := IntWalk.i64_in _ (by omega)
          have HJ := Lib.hid hj
          have HB := Lib.hid hb
          clear hf hcell hv hg g1 g2 hj hb hk0
          go_wp2_with fail
          refine C.out.mono ?_
          rintro e w2 ⟨rfl, hb2⟩
          have e1 := cell_below hb2 HC.out.1.1
          have e2 := cell_below hb2 HC.out.1.2
          have e3 := cell_below hb2 HC.out.2.1
          have e4 := cell_below hb2 HC.out.2.2
          have HB2 := Lib.hid (bch HB.out hb2)
          have a1 := fun o => cell_below (one_below w2 o) e1
          have a2 := fun o => cell_below (one_below w2 o) e2
          have a3 := fun o => cell_below (one_below w2 o) e3
          have a4 := fun o => cell_below (one_below w2 o) e4
          have b1 := fun o o2 => cell_below (two_below w2 o o2) e1
          have b2 := fun o o2 => cell_below (two_below w2 o o2) e2
          have b3 := fun o o2 => cell_below (two_below w2 o o2) e3
          have b4 := fun o o2 => cell_below (two_below w2 o o2) e4
          clear hb2 HC HB C c1 c2
          have HX1 := Lib.hid (And.intro (cells_two (blk_below (one_below (w2.alloc (.cells #[.int .i64 μ, .string ⟨y.toArray⟩] 40)) (.cells #[.int .i64 κ, .string ⟨z.toArray⟩] 40)) (tok40x w2 (.int .i64 μ) (.string ⟨y.toArray⟩)))) (cells_two (tok40y w2 (.cells #[.int .i64 μ, .string ⟨y.toArray⟩] 40) (.int .i64 κ) (.string ⟨z.toArray⟩))))
          have HX2 := Lib.hid (And.intro (cells_two (tok40y w2 (.cells #[.int .i64 κ, .string ⟨z.toArray⟩] 40) (.int .i64 μ) (.string ⟨y.toArray⟩))) (cells_two (blk_below (one_below (w2.alloc (.cells #[.int .i64 κ, .string ⟨z.toArray⟩] 40)) (.cells #[.int .i64 μ, .string ⟨y.toArray⟩] 40)) (tok40x w2 (.int .i64 κ) (.string ⟨z.toArray⟩)))))
          have HY1 := Lib.hid (bch HB2.out (two_below w2 (.cells #[.int .i64 μ, .string ⟨y.toArray⟩] 40) (.cells #[.int .i64 κ, .string ⟨z.toArray⟩] 40)))
          have HY2 := Lib.hid (bch HB2.out (two_below w2 (.cells #[.int .i64 κ, .string ⟨z.toArray⟩] 40) (.cells #[.int .i64 μ, .string ⟨y.toArray⟩] 40)))
          have CG := Lib.hid (fun w => rgaps_any μ w)
          have CK := Lib.hid (fun w => rgaps_any κ w)
          have HRN := Lib.hid (show nextB (μ, y) (κ, z) = false → false = V from fun hn => (right_next HG.out.1 (by rw [← HJ.out]; exact HG.out.2) hn).symm.trans HV.out)
          have HRS := Lib.hid (show nextB (μ, y) (κ, z) = true → rightL (ts.take (k + 1)) = true from fun hn => by
            have h1 := HR.out
            have h2 := HG.out
            rw [HJ.out] at h1 h2 ⊢
            exact right_step h1 h2.1 h2.2 HM.out hn)
          go_wp2_with fail
          go_region
          all_goals clear a1 a2 a3 a4 b1 b2 b3 b4 e1 e2 e3 e4 f0 f1 f2
          · have d := HX1.out
            obtain ⟨⟨d1, d2⟩, d3, d4⟩ := d
            have HB3 : Hid (Below w.heap.size w (((w2.alloc (.cells #[.int .i64 μ, .string ⟨y.toArray⟩] 40)).alloc (.cells #[.int .i64 κ, .string ⟨z.toArray⟩] 40)).drew)) := Lib.hid (HY1.out.trans ⟨rfl, rfl, rfl, Nat.le_refl _, fun _ _ => rfl⟩)
            have D1 : (((w2.alloc (.cells #[.int .i64 μ, .string ⟨y.toArray⟩] 40)).alloc (.cells #[.int .i64 κ, .string ⟨z.toArray⟩] 40)).drew).cell? ⟨w2.heap.size, 0, none⟩ = some (.int .i64 μ) := d1
            have D2 : (((w2.alloc (.cells #[.int .i64 μ, .string ⟨y.toArray⟩] 40)).alloc (.cells #[.int .i64 κ, .string ⟨z.toArray⟩] 40)).drew).cell? ⟨w2.heap.size, 1, none⟩ = some (.string ⟨y.toArray⟩) := d2
            have D3 : (((w2.alloc (.cells #[.int .i64 μ, .string ⟨y.toArray⟩] 40)).alloc (.cells #[.int .i64 κ, .string ⟨z.toArray⟩] 40)).drew).cell? ⟨w2.heap.size + 1, 0, none⟩ = some (.int .i64 κ) := d3
            have D4 : (((w2.alloc (.cells #[.int .i64 μ, .string ⟨y.toArray⟩] 40)).alloc (.cells #[.int .i64 κ, .string ⟨z.toArray⟩] 40)).drew).cell? ⟨w2.heap.size + 1, 1, none⟩ = some (.string ⟨z.toArray⟩) := d4
            clear d1 d2 d3 d4 HX1 HX2 HY1 HY2 HB2
            generalize ((w2.alloc (.cells #[.int .i64 μ, .string ⟨y.toArray⟩] 40)).alloc (.cells #[.int .i64 κ, .string ⟨z.toArray⟩] 40)).drew = w3 at *
            rcases next_ways μ κ y z with ⟨m1, k1, hn⟩ | ⟨m1, k1, gm, m4, hn⟩ | ⟨m1, gm, gk, hn⟩ | ⟨m1, gm, gk, m4, hn⟩ | ⟨m1, gm, m4, k1, hn⟩ | ⟨m1, gm, m4, k1, hn⟩ | ⟨m1, gm, m4, hn⟩
            · have HE := Lib.hid (HRN.out hn)
              clear hn HRN HRS HR
              go_wp2
              go_ret
              exact ⟨ret_bool HE.out, HB3.out⟩
            · have HN := Lib.hid (HRS.out hn)
              clear hn HRN HRS HR
              rw [gm] at CG
              go_wp2_with fail
              refine (CG.out _).mono ?_
              rintro e w' ⟨rfl, rfl⟩
              go_wp2
              go_roundw
              case rel => exact ⟨k + 1, by omega, by go_num, HN, HB3.out⟩
              case measure => simp [intOf]; omega
            · have HE := Lib.hid (HRN.out hn)
              clear hn HRN HRS HR
              rw [gm] at CG
              rw [gk] at CK
              go_wp2_with fail
              refine (CG.out _).mono ?_
              rintro e w' ⟨rfl, rfl⟩
              go_wp2_with fail
              refine (CK.out _).mono ?_
              rintro e w' ⟨rfl, rfl⟩
              go_wp2
              go_ret
              exact ⟨ret_bool HE.out, HB3.out⟩
            · have HN := Lib.hid (HRS.out hn)
              clear hn HRN HRS HR
              rw [gm] at CG
              rw [gk] at CK
              go_wp2_with fail
              refine (CG.out _).mono ?_
              rintro e w' ⟨rfl, rfl⟩
              go_wp2_with fail
              refine (CK.out _).mono ?_
              rintro e w' ⟨rfl, rfl⟩
              go_wp2
              go_roundw
              case rel => exact ⟨k + 1, by omega, by go_num, HN, HB3.out⟩
              case measure => simp [intOf]; omega
            · have hm1 := HM.out
              have k1' : κ = 1 := by simpa using k1
              rw [k1', may_word] at hm1
              have h0 : 0 < (⟨z.toArray⟩ : ByteArray).size := by
                show 0 < z.length
                cases z <;> simp at hm1 ⊢
              have hh : hdB ltr z = ltrI ((⟨z.toArray⟩ : ByteArray)[0].toNat : Int) := by
                rw [← ltr_int]; exact hd_yes ltr ⟨z.toArray⟩ 0 h0
              obtain ⟨x, hx⟩ : ∃ x : Int, ((⟨z.toArray⟩ : ByteArray)[0].toNat : Int) = x := ⟨_, rfl⟩
              rw [hh, hx] at hn
              have CL := Lib.hid (fun w => rletter_any x w)
              rw [gm] at CG
              clear k1' hm1 hh
              cases hv : ltrI x
              · rw [hv] at CL hn
                have HN := Lib.hid (HRS.out hn)
                clear hn HRN HRS HR hv
                go_wp2_with fail
                refine (CG.out _).mono ?_
                rintro e w' ⟨rfl, rfl⟩
                go_wp2_with fail
                refine (CL.out _).mono ?_
                rintro e w' ⟨rfl, rfl⟩
                go_wp2
                go_roundw
                case rel => exact ⟨k + 1, by omega, by go_num, HN, HB3.out⟩
                case measure => simp [intOf]; omega
              · rw [hv] at CL hn
                have HE := Lib.hid (HRN.out hn)
                clear hn HRN HRS HR hv
                go_wp2_with fail
                refine (CG.out _).mono ?_
                rintro e w' ⟨rfl, rfl⟩
                go_wp2_with fail
                refine (CL.out _).mono ?_
                rintro e w' ⟨rfl, rfl⟩
                go_wp2
                go_ret
                exact ⟨ret_bool HE.out, HB3.out⟩
            · have HN := Lib.hid (HRS.out hn)
              clear hn HRN HRS HR
              rw [gm] at CG
              go_wp2_with fail
              refine (CG.out _).mono ?_
              rintro e w' ⟨rfl, rfl⟩
              go_wp2
              go_roundw
              case rel => exact ⟨k + 1, by omega, by go_num, HN, HB3.out⟩
              case measure => simp [intOf]; omega
            · have HN := Lib.hid (HRS.out hn)
              clear hn HRN HRS HR
              rw [gm] at CG
              go_wp2_with fail
              refine (CG.out _).mono ?_
              rintro e w' ⟨rfl, rfl⟩
              go_wp2
              go_roundw
              case rel => exact ⟨k + 1, by omega, by go_num, HN, HB3.out⟩
              case measure => simp [intOf]; omega
          · have d := HX2.out
            obtain ⟨⟨d1, d2⟩, d3, d4⟩ := d
            have HB3 : Hid (Below w.heap.size w (((w2.alloc (.cells #[.int .i64 κ, .string ⟨z.toArray⟩] 40)).alloc (.cells #[.int .i64 μ, .string ⟨y.toArray⟩] 40)).drew)) := Lib.hid (HY2.out.trans ⟨rfl, rfl, rfl, Nat.le_refl _, fun _ _ => rfl⟩)
            have D1 : (((w2.alloc (.cells #[.int .i64 κ, .string ⟨z.toArray⟩] 40)).alloc (.cells #[.int .i64 μ, .string ⟨y.toArray⟩] 40)).drew).cell? ⟨w2.heap.size + 1, 0, none⟩ = some (.int .i64 μ) := d1
            have D2 : (((w2.alloc (.cells #[.int .i64 κ, .string ⟨z.toArray⟩] 40)).alloc (.cells #[.int .i64 μ, .string ⟨y.toArray⟩] 40)).drew).cell? ⟨w2.heap.size + 1, 1, none⟩ = some (.string ⟨y.toArray⟩) := d2
            have D3 : (((w2.alloc (.cells #[.int .i64 κ, .string ⟨z.toArray⟩] 40)).alloc (.cells #[.int .i64 μ, .string ⟨y.toArray⟩] 40)).drew).cell? ⟨w2.heap.size, 0, none⟩ = some (.int .i64 κ) := d3
            have D4 : (((w2.alloc (.cells #[.int .i64 κ, .string ⟨z.toArray⟩] 40)).alloc (.cells #[.int .i64 μ, .string ⟨y.toArray⟩] 40)).drew).cell? ⟨w2.heap.size, 1, none⟩ = some (.string ⟨z.toArray⟩) := d4
            clear d1 d2 d3 d4 HX1 HX2 HY1 HY2 HB2
            generalize ((w2.alloc (.cells #[.int .i64 κ, .string ⟨z.toArray⟩] 40)).alloc (.cells #[.int .i64 μ, .string ⟨y.toArray⟩] 40)).drew = w3 at *
            rcases next_ways μ κ y z with ⟨m1, k1, hn⟩ | ⟨m1, k1, gm, m4, hn⟩ | ⟨m1, gm, gk, hn⟩ | ⟨m1, gm, gk, m4, hn⟩ | ⟨m1, gm, m4, k1, hn⟩ | ⟨m1, gm, m4, k1, hn⟩ | ⟨m1, gm, m4, hn⟩
            · have HE := Lib.hid (HRN.out hn)
              clear hn HRN HRS HR
              go_wp2
              go_ret
              exact ⟨ret_bool HE.out, HB3.out⟩
            · have HN := Lib.hid (HRS.out hn)
              clear hn HRN HRS HR
              rw [gm] at CG
              go_wp2_with fail
              refine (CG.out _).mono ?_
              rintro e w' ⟨rfl, rfl⟩
              go_wp2
              go_roundw
              case rel => exact ⟨k + 1, by omega, by go_num, HN, HB3.out⟩
              case measure => simp [intOf]; omega
            · have HE := Lib.hid (HRN.out hn)
              clear hn HRN HRS HR
              rw [gm] at CG
              rw [gk] at CK
              go_wp2_with fail
              refine (CG.out _).mono ?_
              rintro e w' ⟨rfl, rfl⟩
              go_wp2_with fail
              refine (CK.out _).mono ?_
              rintro e w' ⟨rfl, rfl⟩
              go_wp2
              go_ret
              exact ⟨ret_bool HE.out, HB3.out⟩
            · have HN := Lib.hid (HRS.out hn)
              clear hn HRN HRS HR
              rw [gm] at CG
              rw [gk] at CK
              go_wp2_with fail
              refine (CG.out _).mono ?_
              rintro e w' ⟨rfl, rfl⟩
              go_wp2_with fail
              refine (CK.out _).mono ?_
              rintro e w' ⟨rfl, rfl⟩
              go_wp2
              go_roundw
              case rel => exact ⟨k + 1, by omega, by go_num, HN, HB3.out⟩
              case measure => simp [intOf]; omega
            · have hm1 := HM.out
              have k1' : κ = 1 := by simpa using k1
              rw [k1', may_word] at hm1
              have h0 : 0 < (⟨z.toArray⟩ : ByteArray).size := by
                show 0 < z.length
                cases z <;> simp at hm1 ⊢
              have hh : hdB ltr z = ltrI ((⟨z.toArray⟩ : ByteArray)[0].toNat : Int) := by
                rw [← ltr_int]; exact hd_yes ltr ⟨z.toArray⟩ 0 h0
              obtain ⟨x, hx⟩ : ∃ x : Int, ((⟨z.toArray⟩ : ByteArray)[0].toNat : Int) = x := ⟨_, rfl⟩
              rw [hh, hx] at hn
              have CL := Lib.hid (fun w => rletter_any x w)
              rw [gm] at CG
              clear k1' hm1 hh
              cases hv : ltrI x
              · rw [hv] at CL hn
                have HN := Lib.hid (HRS.out hn)
                clear hn HRN HRS HR hv
                go_wp2_with fail
                refine (CG.out _).mono ?_
                rintro e w' ⟨rfl, rfl⟩
                go_wp2_with fail
                refine (CL.out _).mono ?_
                rintro e w' ⟨rfl, rfl⟩
                go_wp2
                go_roundw
                case rel => exact ⟨k + 1, by omega, by go_num, HN, HB3.out⟩
                case measure => simp [intOf]; omega
              · rw [hv] at CL hn
                have HE := Lib.hid (HRN.out hn)
                clear hn HRN HRS HR hv
                go_wp2_with fail
                refine (CG.out _).mono ?_
                rintro e w' ⟨rfl, rfl⟩
                go_wp2_with fail
                refine (CL.out _).mono ?_
                rintro e w' ⟨rfl, rfl⟩
                go_wp2
                go_ret
                exact ⟨ret_bool HE.out, HB3.out⟩
            · have HN := Lib.hid (HRS.out hn)
              clear hn HRN HRS HR
              rw [gm] at CG
              go_wp2_with fail
              refine (CG.out _).mono ?_
              rintro e w' ⟨rfl, rfl⟩
              go_wp2
              go_roundw
              case rel => exact ⟨k + 1, by omega, by go_num, HN, HB3.out⟩
              case measure => simp [intOf]; omega
            · have HN := Lib.hid (HRS.out hn)
              clear hn HRN HRS HR
              rw [gm] at CG
              go_wp2_with fail
              refine (CG.out _).mono ?_
              rintro e w' ⟨rfl, rfl⟩
              go_wp2
              go_roundw
              case rel => exact ⟨k + 1, by omega, by go_num, HN, HB3.out⟩
              case measure => simp [intOf]; omega
    · have HE := Lib.hid (show true = V by have := HR.out; rw [List.take_of_length_le (by omega)] at this; exact this.symm.trans HV.out)
      clear HR
      go_wp2
      go_ret
      exact ⟨ret_bool HE.out, hb⟩
end Go.Proofs.Ytcfhjnidcmenkaa
