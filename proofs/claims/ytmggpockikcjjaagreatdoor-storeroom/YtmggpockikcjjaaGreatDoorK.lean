/-
  Contracts of the document's answer's Drop and Put: as the plain functions say; lists of the call's own; old memory stays.
-/
import Derived.Test.YtmggpockikcjjaaGreatDoorG
namespace Go.Proofs.YtmggpockikcjjaaGreatDoor
open Go.RowKit

theorem own_empty (w : World) : Own (w.alloc (.cells #[] 37)) w.heap.size (some ⟨w.heap.size, 0, none⟩) 0 [] := World.ownsRow_lit w #[] 0 (Nat.le_refl _) (by unfold maxLen; omega) (by simp)
theorem one_new (w : World) (f : Fl) : Rd (w.alloc (.cells #[.string ⟨f.1.toArray⟩, .string ⟨f.2.toArray⟩] 37)) (some ⟨w.heap.size, 0, none⟩) [f] := one_read (new_fst _ _ _ _) (new_snd _ _ _ _)
theorem drop_keep {fs : List Fl} {n : List UInt8} {k : Nat} {f : Fl} (hf : fs[k]? = some f) (h : (f.1 == n) = false) : dropL (fs.take (k + 1)) n = dropL (fs.take k) n ++ [f] := by
  rw [at_take hf]; unfold dropL; rw [List.filter_append]; simp [h]
theorem drop_skip {fs : List Fl} {n : List UInt8} {k : Nat} {f : Fl} (hf : fs[k]? = some f) (h : (f.1 == n) = true) : dropL (fs.take (k + 1)) n = dropL (fs.take k) n := by
  rw [at_take hf]; unfold dropL; rw [List.filter_append]; simp [h]
theorem ret_drop {A : Option Addr} {n c : Nat} {a b : Bool} (h : a = b) : Ending.returned (.tuple #[.slice A n c, .bool a]) = .returned (.tuple #[.slice A n c, .bool b]) := by rw [h]

set_option maxRecDepth 100000 in
set_option maxHeartbeats 1000000 in
theorem rdrop_any (A : Option Addr) (c : Nat) (fs : List Fl) (n : List UInt8) (w : World) (hr : Rd w A fs) (hc : fs.length ≤ 100000) :
    Calls Tryz.prog 50 #[.slice A fs.length c, .string ⟨n.toArray⟩] w (Res2 w (dropL fs n) (.bool (hasL fs n))) := by
  have ho0 := own_empty w
  have hb0 := one_below w (.cells #[] 37)
  go_enter Tryz.func50, Tryz.ntmps50
  go_wp2_with fail
  go_loopw [6, 7] (fun v i wr => ∃ (k : Nat) (A : Option Addr) (c : Nat) (xs : List Fl), k ≤ fs.length ∧ i = .int .i64 k ∧ v = .slice A xs.length c ∧ xs = dropL (fs.take k) n ∧ Own wr w.heap.size A c xs ∧ Below w.heap.size w wr) (fun _ i _ => fs.length - (intOf i).toNat)
  case atStart => exact ⟨0, _, 0, [], Nat.zero_le _, rfl, rfl, rfl, ho0, hb0⟩
  case round =>
    obtain ⟨k, B, d, xs, hk, rfl, rfl, hx, hown, hb⟩ := hrel
    have hxl : xs.length ≤ fs.length := by have := dropL_len (fs.take k) n; rw [← hx] at this; simp at this; omega
    have HX := Lib.hid hx
    clear hx ho0 hb0
    by_cases hlt : k < fs.length
    · have hrw := hr.below hb
      obtain ⟨b, o, rfl, hcell⟩ := hrw (by omega)
      obtain ⟨f, hf⟩ : ∃ f, fs[k]? = some f := ⟨_, List.getElem?_eq_getElem hlt⟩
      obtain ⟨c1, c2⟩ := hcell k f hf
      have HF := Lib.hid hf
      clear hf hcell hrw
      cases hn : f.1 == n
      · have HN := Lib.hid hn
        go_wp2_with (at_builtin; refine wpList_append_rd _ rfl _ _ rfl w.heap.size _ xs rfl (hown.alloc _) (some ⟨wr.heap.size, 0, none⟩) 1 [f] rfl (one_new wr f) (by simp; omega) (by have := hb.size; simp; omega) ?_; intro A1 c1' w2 hown2 hb2)
        go_roundw
        case rel => exact ⟨k + 1, A1, c1', xs ++ [f], by omega, by go_num, by simp, by rw [drop_keep HF.out HN.out, HX.out], hown2, (hb.alloc hb.size _).trans hb2⟩
        case measure => simp [intOf]; omega
      · have HN := Lib.hid hn
        go_wp2
        go_roundw
        case rel => exact ⟨k + 1, B, d, xs, by omega, by go_num, rfl, by rw [drop_skip HF.out HN.out, HX.out], hown, hb⟩
        case measure => simp [intOf]; omega
    · have e := HX.out
      rw [List.take_of_length_le (by omega)] at e
      have HE := Lib.hid e
      clear e
      go_wp2
      go_ret2
      have e := HE.out
      subst e
      exact ⟨B, d, ret_drop (dropL_lt fs n), hown, hb⟩

theorem take_plc {fs : List Fl} {n : List UInt8} {k : Nat} (h : ∀ i (q : i < fs.length), i < k → Op.bytesLess fs[i].1 n = true) (hk : k ≤ fs.length) (hs : k = fs.length ∨ ∃ f, fs[k]? = some f ∧ Op.bytesLess f.1 n = false) : plc fs n = k := by
  have hl := plc_le fs n
  unfold plc at *
  clear hl
  induction fs generalizing k with
  | nil => simp at hk; simp [hk]
  | cons f r ih =>
    rw [List.takeWhile_cons]
    cases k with
    | zero =>
      rcases hs with hs | ⟨g, hg, hb⟩
      · simp at hs
      · simp at hg; subst hg; simp [hb]
    | succ j =>
      have h0 := h 0 (by simp) (by omega)
      simp only [List.getElem_cons_zero] at h0
      rw [if_pos h0, List.length_cons]
      congr 1
      refine ih (fun i q hi => by have := h (i + 1) (by simpa using q) (by omega); rwa [List.getElem_cons_succ] at this) (by simpa using hk) ?_
      rcases hs with hs | ⟨g, hg, hb⟩
      · left; simpa using hs
      · right; exact ⟨g, by simpa using hg, hb⟩
theorem put_shape (fs : List Fl) (f : Fl) : putL fs f = (dropL fs f.1).take (plc (dropL fs f.1) f.1) ++ [f] ++ (dropL fs f.1).drop (plc (dropL fs f.1) f.1) := by
  unfold putL
  rw [takeWhile_plc, dropWhile_plc]; simp
theorem lt_step {fs : List Fl} {n : List UInt8} {k : Nat} {f : Fl} (hf : fs[k]? = some f) (hl : Op.bytesLess f.1 n = true) (h : ∀ i (q : i < fs.length), i < k → Op.bytesLess fs[i].1 n = true) : ∀ i (q : i < fs.length), i < k + 1 → Op.bytesLess fs[i].1 n = true := fun i q hi => by
  rcases Nat.lt_or_ge i k with z | z
  · exact h i q z
  · obtain rfl : i = k := by omega
    rw [get_of hf q]; exact hl
theorem ret_slice {A : Option Addr} {n m c : Nat} {v : Value} (h : n = m) : Ending.returned (.tuple #[.slice A n c, v]) = .returned (.tuple #[.slice A m c, v]) := by rw [h]

set_option maxRecDepth 100000 in
set_option maxHeartbeats 4000000 in
theorem rput_yes (A : Option Addr) (c : Nat) (fs : List Fl) (f : Fl) (w : World) (hr : Rd w A fs) (hc : fs.length ≤ 1000) (l1 : f.1.length ≤ 9223372036854775807) (h4 : f.2.length ≤ 4000)
    (hn : Hid (nmOk f.1 = true)) (hh : Hid (hasL fs f.1 = true) ∨ (Hid (hasL fs f.1 = false) ∧ fs.length < 32)) :
    Calls Tryz.prog 33 #[.slice A fs.length c, .agg #[.string ⟨f.1.toArray⟩, .string ⟨f.2.toArray⟩]] w (Res2 w (putL fs f) (.int .i64 0)) := by
  have HS := Lib.hid (put_shape fs f)
  have HD := Lib.hid (fun (w' : World) (h : Rd w' A fs) => rdrop_any A c fs f.1 w' h (by omega))
  have hdl := dropL_len fs f.1
  generalize dropL fs f.1 = ds at HS HD hdl
  have b0 := one_below w (.cells #[.string ⟨f.1.toArray⟩, .string ⟨f.2.toArray⟩] 37)
  have N1 := Lib.hid (new_fst w (.string ⟨f.1.toArray⟩) (.string ⟨f.2.toArray⟩) 37)
  have N2 := Lib.hid (new_snd w (.string ⟨f.1.toArray⟩) (.string ⟨f.2.toArray⟩) 37)
  have HR := Lib.hid hr
  clear hr
  obtain ⟨hb, hhb⟩ : ∃ hb, hb = hasL fs f.1 := ⟨_, rfl⟩
  rw [← hhb] at HD hh
  clear hhb
  have hcase : hb = true ∨ (hb = false ∧ fs.length < 32) := by
    rcases hh with h | ⟨h, k⟩
    · exact .inl h.out
    · exact .inr ⟨h.out, k⟩
  clear hh
  have d4 : decide ((4000 : Int) < (f.2.length : Int)) = false := decide_eq_false (by omega)
  rcases hcase with rfl | ⟨rfl, h32⟩
  all_goals
    try (have d32 : decide ((32 : Int) ≤ (fs.length : Int)) = false := decide_eq_false (by omega))
    go_enter Tryz.func33, Tryz.ntmps33
    go_wp2_with fail
    refine (rname_any f.1 _ l1).mono ?_
    rw [hn.out]
    rintro e w1 ⟨rfl, rfl⟩
    have hr1 := HR.out.below b0
    go_wp2_with fail
    refine (HD.out _ hr1).mono ?_
    rintro e w2 ⟨A2, c2, rfl, ho2, hb2⟩
    have hbw := bch b0 hb2
    have m1 := cell_below hb2 N1.out
    have m2 := cell_below hb2 N2.out
    have hr2 := ho2.rd
    obtain ⟨cc1, cc2, _⟩ := ho2.cap
    have ho3 := own_empty w2
    have hb3 := one_below w2 (.cells #[] 37)
    have HR2 := Lib.hid hr2
    have HM1 := Lib.hid m1
    have HM2 := Lib.hid m2
    clear hr2 hr1 HD N1 N2 ho2
    go_wp2_with fail
    clear m1 m2
    go_loopw [8, 9] (fun v i wr => ∃ (k : Nat) (B : Option Addr) (d : Nat) (xs : List Fl), k ≤ ds.length ∧ i = .int .i64 k ∧ v = .slice B xs.length d ∧ xs = ds.take k ∧ (∀ i (q : i < ds.length), i < k → Op.bytesLess ds[i].1 f.1 = true) ∧ Own wr w2.heap.size B d xs ∧ Below w2.heap.size w2 wr) (fun _ i _ => ds.length - (intOf i).toNat)
    case atStart => exact ⟨0, _, 0, [], Nat.zero_le _, rfl, rfl, rfl, (fun i q h => absurd h (by omega)), ho3, hb3⟩
    case round =>
      clear ho3 hb3
      obtain ⟨k, B, d, xs, hk, rfl, rfl, hx, hall, hown, hb⟩ := hrel
      have hxl : xs.length = k := by rw [hx]; simp; omega
      have HX := Lib.hid hx
      have HA := Lib.hid hall
      clear hx hall
      have n1 := cell_below hb HM1.out
      have n2 := cell_below hb HM2.out
      have hr3 := HR2.out.below hb
      by_cases hgo : ∃ g, ds[k]? = some g ∧ Op.bytesLess g.1 f.1 = true
      · obtain ⟨g, hg, hl⟩ := hgo
        have hlt : k < ds.length := by
          rcases Nat.lt_or_ge k ds.length with z | z
          · exact z
          · rw [List.getElem?_eq_none z] at hg; cases hg
        obtain ⟨b, o, rfl, hcell⟩ := hr3 (by omega)
        obtain ⟨g1, g2⟩ := hcell k g hg
        have HG := Lib.hid hg
        have HL := Lib.hid hl
        have HK := Lib.hid hxl
        clear hg hcell hr3 hxl
        have i1 : (k : Int) < (ds.length : Int) := by omega
        go_wp2_with fail
        go_quiet (fail)
        replace hb := bch hb (drewN_below wr nq)
        replace hown := hown.below (drewN_below wr nq)
        have g1' : (wr.drewN nq).cell? ⟨b, o + k * 2, none⟩ = _ := g1
        have g2' : (wr.drewN nq).cell? ⟨b, o + k * 2 + 1, none⟩ = _ := g2
        generalize wr.drewN nq = wq at hb hown g1' g2' ⊢
        clear g1 g2 n1 n2
        go_wp2_with (at_builtin; refine wpList_append_rd _ rfl _ _ rfl w2.heap.size _ xs rfl (hown.alloc _) (some ⟨wq.heap.size, 0, none⟩) 1 [g] rfl (one_new wq g) (by have := HK.out; simp; omega) (by have := hb.size; simp; omega) ?_; intro A1 c1' w3 hown2 hb2)
        go_roundw
        case rel => exact ⟨k + 1, A1, c1', xs ++ [g], by omega, by go_num, by simp, by rw [HX.out, at_take HG.out], lt_step HG.out HL.out HA.out, hown2, (hb.alloc hb.size _).trans hb2⟩
        case measure => simp [intOf]; omega
      · have hp : plc ds f.1 = k := take_plc HA.out hk (by
          rcases Nat.lt_or_ge k ds.length with z | z
          · right
            refine ⟨ds[k], List.getElem?_eq_getElem z, ?_⟩
            cases q : Op.bytesLess ds[k].1 f.1
            · rfl
            · exact absurd ⟨ds[k], List.getElem?_eq_getElem z, q⟩ hgo
          · left; omega)
        have hfin := HS.out
        rw [hp, ← HX.out] at hfin
        have hyl : (ds.drop k).length = ds.length - k := by simp
        subst hxl
        by_cases hlt : xs.length < ds.length
        · have hry := Rd.cut HR2.out (k := xs.length) (c := c2) hk cc1
          obtain ⟨b, o, rfl, hcell⟩ := hr3 (by omega)
          obtain ⟨g, hg⟩ : ∃ g, ds[xs.length]? = some g := ⟨_, List.getElem?_eq_getElem hlt⟩
          obtain ⟨g1, g2⟩ := hcell _ g hg
          have hl : Op.bytesLess g.1 f.1 = false := by
            cases q : Op.bytesLess g.1 f.1
            · rfl
            · exact absurd ⟨g, hg, q⟩ hgo
          have hne : ¬ c2 = xs.length := by omega
          unfold cutA at hry
          rw [if_neg hne] at hry
          simp only [Option.map_some, add_lit] at hry
          generalize ds.drop xs.length = ys at hfin hry hyl
          have HFIN := Lib.hid hfin
          have HY := Lib.hid hyl
          have HRY := Lib.hid hry
          have hsum : xs.length + ys.length ≤ 1000 := by omega
          obtain ⟨r1, hr1⟩ : ∃ r, xs ++ [f] = r := ⟨_, rfl⟩
          obtain ⟨r2, hr2⟩ : ∃ r, r1 ++ ys = r := ⟨_, rfl⟩
          have R1 := Lib.hid hr1
          have R2 := Lib.hid hr2
          clear hr1 hr2
          clear hp hfin hyl hry hg hcell hgo
          have i1 : (xs.length : Int) < (ds.length : Int) := by omega
          go_wp2_with fail
          go_quiet (fail)
          replace hb := bch hb (drewN_below wr nq)
          replace hown := hown.below (drewN_below wr nq)
          have n1' : (wr.drewN nq).cell? ⟨w.heap.size, 0, none⟩ = _ := n1
          have n2' : (wr.drewN nq).cell? ⟨w.heap.size, 1, none⟩ = _ := n2
          generalize wr.drewN nq = wq at hb hown n1' n2' ⊢
          clear n1 n2 g1 g2 hl
          go_wp2_with (first | (at_builtin; refine wpList_append_rdn _ rfl (.tmp 61) (.tmp 63) rfl w2.heap.size _ xs rfl (hown.alloc _) (some ⟨wq.heap.size, 0, none⟩) 1 1 [f] rfl rfl (one_new wq f) (by simp; omega) (by have := hb.size; simp; omega) r1 R1.out ?_; intro A1 c1' w3 hown2 hb3; have hbb := (hb.alloc hb.size (.cells #[.string ⟨f.1.toArray⟩, .string ⟨f.2.toArray⟩] 37)).trans hb3) | (at_builtin; refine wpList_append_rdn _ rfl (.tmp 65) (.tmp 68) rfl w2.heap.size _ r1 rfl hown2 (some ⟨b, o + xs.length * 2, none⟩) (ds.length - xs.length) (c2 - xs.length) ys HY.out.symm rfl (HRY.out.below hbb) (by rw [← R1.out]; simp; omega) hbb.size r2 R2.out ?_; intro A4 c4 w4 hown4 hb4))
          go_ret2
          have e := HFIN.out
          rw [R1.out, R2.out] at e
          rw [e]
          exact ⟨A4, c4, rfl, hown4.mono hbw.size, bch hbw (hbb.trans hb4)⟩
        · have hye : ds.drop xs.length = [] := List.drop_of_length_le (by omega)
          rw [hye, List.append_nil] at hfin
          have HFIN := Lib.hid hfin
          clear hp hfin hyl hgo hye hr3
          obtain he : ds.length = xs.length := by omega
          have hd : decide ((xs.length : Int) < (ds.length : Int)) = false := decide_eq_false (by omega)
          have hd2 : decide (xs.length < ds.length) = false := decide_eq_false (by omega)
          have HE := Lib.hid he
          clear he
          obtain ⟨r1, hr1⟩ : ∃ r, xs ++ [f] = r := ⟨_, rfl⟩
          have R1 := Lib.hid hr1
          clear hr1
          go_wp2_with fail
          go_quiet (fail)
          replace hb := bch hb (drewN_below wr nq)
          replace hown := hown.below (drewN_below wr nq)
          have n1' : (wr.drewN nq).cell? ⟨w.heap.size, 0, none⟩ = _ := n1
          have n2' : (wr.drewN nq).cell? ⟨w.heap.size, 1, none⟩ = _ := n2
          generalize wr.drewN nq = wq at hb hown n1' n2' ⊢
          clear n1 n2
          have e2 := cut_from A2 ds.length c2 xs.length hk
          go_wp2_with (first | (at_builtin; refine wpList_append_rdn _ rfl (.tmp 61) (.tmp 63) rfl w2.heap.size _ xs rfl (hown.alloc _) (some ⟨wq.heap.size, 0, none⟩) 1 1 [f] rfl rfl (one_new wq f) (by simp; omega) (by have := hb.size; simp; omega) r1 R1.out ?_; intro A1 c1' w3 hown2 hb3; have hbb := (hb.alloc hb.size (.cells #[.string ⟨f.1.toArray⟩, .string ⟨f.2.toArray⟩] 37)).trans hb3) | (at_builtin; refine wpList_append_rdn _ rfl (.tmp 65) (.tmp 68) rfl w2.heap.size _ r1 rfl hown2 (cutA A2 c2 xs.length) (ds.length - xs.length) (c2 - xs.length) [] (by have := HE.out; simp; omega) rfl (Rd.empty _ _) (by rw [← R1.out]; simp; omega) hbb.size r1 (List.append_nil _) ?_; intro A4 c4 w4 hown4 hb4))
          go_ret2
          have e := HFIN.out
          rw [R1.out] at e
          rw [e]
          exact ⟨A4, c4, rfl, hown4.mono hbw.size, bch hbw (hbb.trans hb4)⟩

set_option maxRecDepth 100000 in
set_option maxHeartbeats 2000000 in
theorem rput_any (A : Option Addr) (c : Nat) (fs : List Fl) (f : Fl) (w : World) (hr : Rd w A fs) (hc : fs.length ≤ 32) (l1 : f.1.length ≤ 9223372036854775807) (l2 : f.2.length ≤ 9223372036854775807) :
    Calls Tryz.prog 33 #[.slice A fs.length c, .agg #[.string ⟨f.1.toArray⟩, .string ⟨f.2.toArray⟩]] w (Res2 w (putR fs f) (.int .i64 (putE fs f))) := by
  have b0 := one_below w (.cells #[.string ⟨f.1.toArray⟩, .string ⟨f.2.toArray⟩] 37)
  have N1 := Lib.hid (new_fst w (.string ⟨f.1.toArray⟩) (.string ⟨f.2.toArray⟩) 37)
  have N2 := Lib.hid (new_snd w (.string ⟨f.1.toArray⟩) (.string ⟨f.2.toArray⟩) 37)
  cases hn : nmOk f.1
  · have hw : wrE f = 2 := (wrE_name hn).symm
    have he : putE fs f = 2 := by rw [putE_wr (by rw [hw]; decide), hw]
    rw [putR_no (by rw [he]; decide), he]
    have HN := Lib.hid hn
    clear hn hw he
    go_enter Tryz.func33, Tryz.ntmps33
    go_wp2_with fail
    refine (rname_any f.1 _ l1).mono ?_
    rw [HN.out]
    rintro e w1 ⟨rfl, rfl⟩
    go_wp2
    go_ret2
    exact ⟨none, 0, rfl, World.ownsRow_nil _ _ _ _, b0⟩
  · have HD := Lib.hid (fun (w' : World) (h : Rd w' A fs) => rdrop_any A c fs f.1 w' h (by omega))
    by_cases h4 : 4000 < f.2.length
    · have hw : wrE f = 3 := (wrE_text hn h4).symm
      have he : putE fs f = 3 := by rw [putE_wr (by rw [hw]; decide), hw]
      rw [putR_no (by rw [he]; decide), he]
      have HN := Lib.hid hn
      have HR := Lib.hid hr
      clear hn hw he hr
      generalize dropL fs f.1 = ds at HD
      generalize hasL fs f.1 = hb at HD
      go_enter Tryz.func33, Tryz.ntmps33
      go_wp2_with fail
      refine (rname_any f.1 _ l1).mono ?_
      rw [HN.out]
      rintro e w1 ⟨rfl, rfl⟩
      have hr1 := HR.out.below b0
      go_wp2_with fail
      refine (HD.out _ hr1).mono ?_
      rintro e w2 ⟨A2, c2, rfl, ho2, hb2⟩
      have hbw := bch b0 hb2
      have m1 := cell_below hb2 N1.out
      have m2 := cell_below hb2 N2.out
      go_wp2
      go_ret2
      exact ⟨none, 0, rfl, World.ownsRow_nil _ _ _ _, hbw⟩
    · have hw : wrE f = 0 := (wrE_fine hn h4).symm
      cases hh : hasL fs f.1
      · by_cases h32 : fs.length < 32
        · have he := putE_mk hw (.inr h32)
          rw [putR_yes he, he]
          exact rput_yes A c fs f w hr (by omega) l1 (by omega) (Lib.hid hn) (.inr ⟨Lib.hid hh, h32⟩)
        · have he := putE_full hw hh (by omega)
          rw [putR_no (by rw [he]; decide), he]
          rw [hh] at HD
          have HN := Lib.hid hn
          have HR := Lib.hid hr
          clear hn hw he hr hh
          generalize dropL fs f.1 = ds at HD
          have d4 : decide ((4000 : Int) < (f.2.length : Int)) = false := decide_eq_false (by omega)
          go_enter Tryz.func33, Tryz.ntmps33
          go_wp2_with fail
          refine (rname_any f.1 _ l1).mono ?_
          rw [HN.out]
          rintro e w1 ⟨rfl, rfl⟩
          have hr1 := HR.out.below b0
          go_wp2_with fail
          refine (HD.out _ hr1).mono ?_
          rintro e w2 ⟨A2, c2, rfl, ho2, hb2⟩
          have hbw := bch b0 hb2
          have m1 := cell_below hb2 N1.out
          have m2 := cell_below hb2 N2.out
          go_wp2
          go_ret2
          exact ⟨none, 0, rfl, World.ownsRow_nil _ _ _ _, hbw⟩
      · have he := putE_mk hw (.inl hh)
        rw [putR_yes he, he]
        exact rput_yes A c fs f w hr (by omega) l1 (by omega) (Lib.hid hn) (.inl (Lib.hid hh))
end Go.Proofs.YtmggpockikcjjaaGreatDoor
