/-
  Package macro: Group.
-/
import Derived.Test.YtjneeikkakekjaaDoorNA
namespace Go.Proofs.YtjneeikkakekjaaDoor
open Go.RowKit

/-- Place and error, and what was there is kept. -/
def GrpPost2 (w : World) (p : Int × Int) (e : Ending) (w' : World) : Prop := e = .returned (.tuple #[.int .i64 p.1, .int .i64 p.2]) ∧ Below w.heap.size w w'
/-- The array of counts. -/
def arr (o c : Int) : Array Value := #[.int .i64 0, .int .i64 0, .int .i64 0, .int .i64 0, .int .i64 0, .int .i64 o, .int .i64 c, .int .i64 0]
theorem arr_set5 (o c v : Int) : (arr o c).setIfInBounds 5 (.int .i64 v) = arr v c := rfl
theorem arr_set6 (o c v : Int) : (arr o c).setIfInBounds 6 (.int .i64 v) = arr o v := rfl
theorem grp_tail {ts us : List Tok} {a : Nat} {t : Tok} (hu : ts.drop a = us) (h : ts[a]? = some t) (h5 : t.1 = 5) : grpN ts a = (endG 0 us).map (· + a) := by
  rw [← hu]; exact (grp_begin h h5).symm
theorem Rd.drop {w : World} {A : Option Addr} {fs : List Tok} (h : Rd w A fs) {l c : Nat} (hm : l ≤ fs.length) (hc : fs.length ≤ c) : Rd w (cutS 2 A c l) (fs.drop l) := by
  have := h.part (l := l) (m := fs.length - l) (c := c) (by omega) hc
  rwa [List.take_of_length_le (by simp)] at this
theorem cell_arr {w : World} {g : Nat} {o c : Int} {t : TypeId} (h : w.heap[g]? = some (.cells (arr o c) t (0, 0))) : w.cell? ⟨g, 5, none⟩ = some (.int .i64 o) ∧ w.cell? ⟨g, 6, none⟩ = some (.int .i64 c) := ⟨cell_of h 5, cell_of h 6⟩
set_option maxRecDepth 100000 in
set_option maxHeartbeats 8000000 in
theorem group_any (A : Option Addr) (c : Nat) (ts : List Tok) (x : Int) (w : World) (hr : Rd w A ts) (hl : ts.length ≤ 200000) (hcap : ts.length ≤ c) (_hc63 : c ≤ 9223372036854775807) :
    Calls Tryd.prog 10 #[.slice A ts.length c, .int .i64 x] w (GrpPost2 w (grpE ts x)) := by
  have CP := Lib.hid (place_any A c ts.length x w hl)
  have hbr := Below.refl w.heap.size w
  rcases (show x < 0 ∨ (ts.length : Int) < x ∨ x = (ts.length : Int) ∨ ∃ a : Nat, x = (a : Int) ∧ a < ts.length by
    by_cases h : x < 0
    · exact .inl h
    · by_cases h2 : (ts.length : Int) < x
      · exact .inr (.inl h2)
      · by_cases h3 : x = (ts.length : Int)
        · exact .inr (.inr (.inl h3))
        · exact .inr (.inr (.inr ⟨x.toNat, by omega, by omega⟩))) with h | h | h | ⟨a, rfl, ha⟩
  · rw [grpE_out (.inl h)]
    rw [decide_eq_false (by omega)] at CP
    clear h
    go_enter Tryd.func10, Tryd.ntmps10
    go_wp2_with fail
    refine CP.out.mono ?_
    rintro e w' ⟨rfl, rfl⟩
    go_wp2
    go_ret2
    exact ⟨rfl, hbr⟩
  · rw [grpE_out (.inr h)]
    rw [decide_eq_false (by omega)] at CP
    clear h
    go_enter Tryd.func10, Tryd.ntmps10
    go_wp2_with fail
    refine CP.out.mono ?_
    rintro e w' ⟨rfl, rfl⟩
    go_wp2
    go_ret2
    exact ⟨rfl, hbr⟩
  · subst h
    rw [grpE_in (Nat.le_refl _), grp_out (Nat.le_refl _), show grpP none = (0, 10) from rfl]
    rw [decide_eq_true (by omega)] at CP
    have q : ((ts.length : Int) == (ts.length : Int)) = true := by simp
    go_enter Tryd.func10, Tryd.ntmps10
    go_wp2_with fail
    refine CP.out.mono ?_
    rintro e w' ⟨rfl, rfl⟩
    go_wp2
    go_ret2
    exact ⟨rfl, hbr⟩
  · rw [grpE_in (by omega)]
    rw [decide_eq_true (by omega)] at CP
    have hr2 := hr
    obtain ⟨b, o, rfl, hcell⟩ := hr (by omega)
    obtain ⟨f, hf⟩ : ∃ f, ts[a]? = some f := ⟨_, List.getElem?_eq_getElem ha⟩
    obtain ⟨c1, c2⟩ := hcell a f hf
    clear hcell
    have i1 : (a : Int) < (ts.length : Int) := by omega
    have q : ((a : Int) == (ts.length : Int)) = false := by rw [beq_eq_false_iff_ne]; omega
    by_cases h5 : f.1 = 5
    · obtain ⟨us, hu⟩ : ∃ us, ts.drop a = us := ⟨_, rfl⟩
      have hG := grp_tail hu hf h5
      have hul : us.length = ts.length - a := by rw [← hu]; simp
      have hu0 : us[0]? = some f := by rw [← hu, List.getElem?_drop]; exact hf
      have hcut := tok_from (A := some ⟨b, o, none⟩) (n := ts.length) (c := c) (l := a) (by omega)
      have hrd := hr2.drop (l := a) (c := c) (by omega) hcap
      rw [hu] at hrd
      rw [← hul] at hcut
      generalize cutS 2 (some ⟨b, o, none⟩) c a = B at *
      rw [hG]
      obtain ⟨G, hGG⟩ : ∃ G, endG 0 us = G := ⟨_, rfl⟩
      rw [hGG] at hG ⊢
      have HG := Lib.hid (show (endG 0 (us.drop 0)).map (· + 0) = G by rw [← hGG]; simp)
      have HF := Lib.hid (And.intro hu0 h5)
      have C1 := Lib.hid (is1_any f.1 ⟨f.2.toArray⟩ 5 3 true (decide_eq_true h5) w)
      have HRD := Lib.hid hrd
      have HUL := Lib.hid hul
      have hul2 : us.length ≤ 200000 := by omega
      clear hGG hG hf h5 hu0 hu hrd hr hr2 hul
      go_enter Tryd.func10, Tryd.ntmps10
      go_wp2_with fail
      refine CP.out.mono ?_
      rintro e w' ⟨rfl, rfl⟩
      go_wp2_with fail
      refine C1.out.mono ?_
      rintro e w1 ⟨rfl, hb1⟩
      have hk0 := heap_alloc_new w1 (.cells (arr 0 0) 80)
      have hk1 := one_below w1 (.cells (arr 0 0) 80)
      have HK0 := Lib.hid hk0
      have HK1 := Lib.hid hk1
      clear hk0 hk1 c1 c2 C1
      go_wp2
      go_loopw [30] (fun v wr => ∃ (i p d : Nat), v = .int .i64 i ∧ i ≤ us.length ∧ p + d ≤ i ∧ (d = 0 → i = 0) ∧ Hid ((endG d (us.drop i)).map (· + i) = G) ∧ Hid (wr.heap[w1.heap.size]? = some (.cells (arr (p + d : Nat) p) 80 (0, 0))) ∧ Hid (Below w1.heap.size w1 wr)) (fun v _ => us.length - (intOf v).toNat)
      case atStart => exact ⟨0, 0, 0, rfl, Nat.zero_le _, Nat.le_refl _, fun _ => rfl, HG, HK0, HK1⟩
      case round =>
        clear HK0 HK1 HG
        obtain ⟨i, p, d, rfl, hi, hpd, hd0, HE, HK, HB⟩ := hrel
        have hbw : Below w.heap.size w wr := hb1.trans (HB.out.mono hb1.size)
        by_cases hlt : i < us.length
        · obtain ⟨bb, oo, rfl, hcell⟩ := (HRD.out.below hbw) (by omega)
          obtain ⟨g, hg⟩ : ∃ g, us[i]? = some g := ⟨_, List.getElem?_eq_getElem hlt⟩
          obtain ⟨e1, e2⟩ := hcell i g hg
          have hst := end_step hg HE.out
          have i2 : (i : Int) < (us.length : Int) := by omega
          have hga : d = 0 → g.1 = 5 := fun h => by
            have e := hd0 h
            subst e
            have := HF.out.1.symm.trans hg
            rw [← Option.some.inj this]; exact HF.out.2
          have HBW := Lib.hid hbw
          have o1 := one_below wr (.cells #[.int .i64 g.1, .string ⟨g.2.toArray⟩] 41)
          have n1 := new_fst wr (.int .i64 g.1) (.string ⟨g.2.toArray⟩) 41
          have hk2 := blk_below o1 HK.out
          have hlt1 : w1.heap.size < wr.heap.size := lt_of_blk HK.out
          have HKK := Lib.hid hk2
          have HNN := Lib.hid n1
          have HB2 := Lib.hid (HB.out.trans (o1.mono (by omega : w1.heap.size ≤ wr.heap.size)))
          have hsz : (wr.alloc (.cells #[.int .i64 g.1, .string ⟨g.2.toArray⟩] 41)).heap.size = wr.heap.size + 1 := by simp
          have HLT := Lib.hid hlt1
          clear hd0 HE hg hcell hbw o1 n1 hk2 HK HB hlt1
          by_cases g5 : g.1 = 5
          · have C2 := is2_any g.1 ⟨g.2.toArray⟩ 5 6 3 true (decide_eq_true (.inl g5)) (wr.alloc (.cells #[.int .i64 g.1, .string ⟨g.2.toArray⟩] 41))
            have hd : dep d g = d + 1 := by simp [dep, g5]
            rw [hd] at hst
            rcases hst with ⟨h, _⟩ | ⟨_, hst⟩
            · omega
            · have HN := Lib.hid hst
              rw [hsz] at C2
              have CC := Lib.hid C2
              have q2 : (((p + d + 1 : Nat) : Int) == (p : Int)) = false := by rw [beq_eq_false_iff_ne]; omega
              have q3 : ((p : Int) + (d : Int) + 1 == (p : Int)) = false := by rw [beq_eq_false_iff_ne]; omega
              have G5 := Lib.hid g5
              have HSZ := Lib.hid hsz
              clear hst hd hga g5 C2 hsz
              go_wp2_with fail
              refine CC.out.mono ?_
              rintro e w3 ⟨rfl, hb3⟩
              have hb3' : Below (wr.alloc (.cells #[.int .i64 g.1, .string ⟨g.2.toArray⟩] 41)).heap.size (wr.alloc (.cells #[.int .i64 g.1, .string ⟨g.2.toArray⟩] 41)) w3 := by rw [HSZ.out]; exact hb3
              have k3 := blk_below hb3' HKK.out
              have n3 := cell_below hb3' HNN.out
              rw [G5.out] at n3
              obtain ⟨a5, a6⟩ := cell_arr k3
              have fz := frozen_of k3 5
              have hn5 := blk_set k3 5 (.int .i64 ((p + (d + 1) : Nat) : Int))
              rw [arr_set5] at hn5
              have HK5 := Lib.hid hn5
              have HB5 := Lib.hid ((HB2.out.trans (hb3'.mono (by rw [HSZ.out]; have := HLT.out; omega))).setCell (Nat.le_refl _) (p := ⟨w1.heap.size, 5, none⟩) (.int .i64 ((p + (d + 1) : Nat) : Int)))
              clear hb3 hb3' k3 hn5 CC HKK HNN HB2 e1 e2
              go_wp2
              go_roundw
              case rel => exact ⟨i + 1, p, d + 1, by go_num, by omega, by omega, by omega, HN, HK5, HB5⟩
              case measure => simp [intOf]; omega
          · have hd1 : d ≠ 0 := fun h => g5 (hga h)
            by_cases g6 : g.1 = 6
            · have C2 := is2_any g.1 ⟨g.2.toArray⟩ 5 6 3 true (decide_eq_true (.inr g6)) (wr.alloc (.cells #[.int .i64 g.1, .string ⟨g.2.toArray⟩] 41))
              have hd : dep d g = d - 1 := by simp [dep, g6]
              rw [hd] at hst
              rw [hsz] at C2
              have CC := Lib.hid C2
              obtain ⟨k, rfl⟩ : ∃ k, d = k + 1 := ⟨d - 1, by omega⟩
              rw [Nat.add_sub_cancel] at hst
              have G6 := Lib.hid g6
              have HSZ := Lib.hid hsz
              have HST := Lib.hid hst
              clear hst hd hga g6 g5 C2 hsz hd1
              go_wp2_with fail
              refine CC.out.mono ?_
              rintro e w3 ⟨rfl, hb3⟩
              have hb3' : Below (wr.alloc (.cells #[.int .i64 g.1, .string ⟨g.2.toArray⟩] 41)).heap.size (wr.alloc (.cells #[.int .i64 g.1, .string ⟨g.2.toArray⟩] 41)) w3 := by rw [HSZ.out]; exact hb3
              have k3 := blk_below hb3' HKK.out
              have n3 := cell_below hb3' HNN.out
              rw [G6.out] at n3
              obtain ⟨a5, a6⟩ := cell_arr k3
              have fz := frozen_of k3 6
              have hn5 := blk_set k3 6 (.int .i64 ((p + 1 : Nat) : Int))
              rw [arr_set6, show p + (k + 1) = p + 1 + k by omega] at hn5
              have HK5 := Lib.hid hn5
              have HB5 := Lib.hid ((HB2.out.trans (hb3'.mono (by rw [HSZ.out]; have := HLT.out; omega))).setCell (Nat.le_refl _) (p := ⟨w1.heap.size, 6, none⟩) (.int .i64 ((p + 1 : Nat) : Int)))
              have HB6 := Lib.hid (hb1.trans (HB5.out.mono hb1.size))
              clear hb3 hb3' k3 hn5 CC HKK HNN HB2 e1 e2
              rcases Nat.eq_zero_or_pos k with h0 | h0
              · subst h0
                have HN := Lib.hid (HST.out.resolve_right (fun h => h.1 rfl)).2
                have q2 : (((p + (0 + 1) : Nat) : Int) == (p : Int) + 1) = true := by rw [beq_iff_eq]; omega
                have q3 : ((p : Int) + 1 == (p : Int) + 1) = true := by simp
                clear HST
                go_wp2
                go_ret2
                rw [HN.out]
                exact ⟨ret_two (int_eq (by show _ = ((i + 1 + a : Nat) : Int); omega)) rfl, HB6.out⟩
              · have HN := Lib.hid (HST.out.resolve_left (fun h => by omega)).2
                have q2 : (((p + (k + 1) : Nat) : Int) == (p : Int) + 1) = false := by rw [beq_eq_false_iff_ne]; omega
                have q3 : ((p : Int) + ((k : Int) + 1) == (p : Int) + 1) = false := by rw [beq_eq_false_iff_ne]; omega
                clear HST
                go_wp2
                go_roundw
                case rel => exact ⟨i + 1, p + 1, k, by go_num, by omega, by omega, by omega, HN, HK5, HB5⟩
                case measure => simp [intOf]; omega
            · have C2 := is2_any g.1 ⟨g.2.toArray⟩ 5 6 3 false (decide_eq_false (fun h => h.elim g5 g6)) (wr.alloc (.cells #[.int .i64 g.1, .string ⟨g.2.toArray⟩] 41))
              have hd : dep d g = d := by simp [dep, g5, g6]
              rw [hd] at hst
              rcases hst with ⟨h, _⟩ | ⟨_, hst⟩
              · exact absurd h hd1
              · have HN := Lib.hid hst
                rw [hsz] at C2
                have CC := Lib.hid C2
                have HSZ := Lib.hid hsz
                clear hst hd hga g5 g6 C2 hsz
                go_wp2_with fail
                refine CC.out.mono ?_
                rintro e w3 ⟨rfl, hb3⟩
                have hb3' : Below (wr.alloc (.cells #[.int .i64 g.1, .string ⟨g.2.toArray⟩] 41)).heap.size (wr.alloc (.cells #[.int .i64 g.1, .string ⟨g.2.toArray⟩] 41)) w3 := by rw [HSZ.out]; exact hb3
                have HK5 := Lib.hid (blk_below hb3' HKK.out)
                have HB5 := Lib.hid (HB2.out.trans (hb3'.mono (by rw [HSZ.out]; have := HLT.out; omega)))
                clear hb3 hb3' CC HKK HNN HB2 e1 e2
                go_wp2
                go_roundw
                case rel => exact ⟨i + 1, p, d, by go_num, by omega, by omega, fun h => absurd h hd1, HN, HK5, HB5⟩
                case measure => simp [intOf]; omega
        · have HN := Lib.hid (end_stop (by omega) HE.out)
          have i2 : ¬ (i : Int) < (us.length : Int) := by omega
          have HBW := Lib.hid hbw
          clear HE hbw HK HB
          go_wp2
          go_ret2
          rw [HN.out]
          exact ⟨rfl, HBW.out⟩
    · rw [grp_not hf h5, show grpP none = (0, 10) from rfl]
      have C1 := Lib.hid (is1_any f.1 ⟨f.2.toArray⟩ 5 3 false (decide_eq_false h5) w)
      clear hf h5 hr hr2
      go_enter Tryd.func10, Tryd.ntmps10
      go_wp2_with fail
      refine CP.out.mono ?_
      rintro e w' ⟨rfl, rfl⟩
      go_wp2_with fail
      refine C1.out.mono ?_
      rintro e w1 ⟨rfl, hb1⟩
      go_wp2
      go_ret2
      exact ⟨rfl, hb1⟩
end Go.Proofs.YtjneeikkakekjaaDoor
