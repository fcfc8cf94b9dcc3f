/-
  Contract of the document's answer's Parse: the map that bytes are, or what is wrong.
-/
import Derived.Test.YthiojbfhodnlgaaDoorO
namespace Go.Proofs.YthiojbfhodnlgaaDoor
open Go.RowKit

set_option maxRecDepth 100000 in
set_option maxHeartbeats 2000000 in
theorem rparse_any (s : List UInt8) (w : World) (hs : s.length ≤ 199999) :
    Calls Tryd.prog 14 #[.string ⟨s.toArray⟩] w (Res2 w (parseL s).2 (.int .i64 (parseL s).1)) := by
  have C := Lib.hid (rall_any s w hs)
  rcases parse_ways s with ⟨h, e⟩ | ⟨ts, ha, hw⟩
  · obtain ⟨x, hx⟩ : ∃ x, (allL s).1 = x := ⟨_, rfl⟩
    have h2 : (allL s).2 = [] := by
      rcases all_codes s.length s (Nat.le_refl _) with k | ⟨_, k⟩
      · exact absurd k h
      · exact k
    rw [e]
    rw [hx] at h
    rw [hx, h2] at C
    rw [hx]
    simp only
    have q0 : (x != 0) = true := by simpa using h
    clear h2 hx e h
    go_enter Tryd.func14, Tryd.ntmps14
    go_wp2_with fail
    refine C.out.mono ?_
    rintro e w1 ⟨A, c, rfl, hown, hb⟩
    go_wp2
    go_ret2
    exact ⟨none, 0, rfl, World.ownsRow_nil _ _ _ _, hb⟩
  have hfit : 3 * ts.length ≤ s.length ∧ Fit (pairL ts) := by
    rcases all_fit ha with q | q
    · exact q
    · omega
  obtain ⟨hl3, hfit⟩ := hfit
  rw [ha] at C
  have HV : Hid (parseL s = if ts.length % 2 = 0 ∧ rightB (pairL ts) = true then (0, pairL ts) else (5, [])) := Lib.hid (by
    by_cases ho : ts.length % 2 = 0
    · cases hr : rightB (pairL ts)
      · rw [parse_wrong ha ho hr, if_neg (fun q => by simp at q)]
      · rw [parse_ok ha ho hr, if_pos ⟨ho, rfl⟩]
    · rw [parse_odd ha ho, if_neg (fun q => ho q.1)])
  generalize parseL s = V at HV ⊢
  clear ha hw
  go_enter Tryd.func14, Tryd.ntmps14
  go_wp2_with fail
  refine C.out.mono ?_
  rintro e w1 ⟨A, c, rfl, hown, hb⟩
  have hrd := hown.rd
  clear hown
  go_wp2_with fail
  go_loopw [6, 7] (fun vl vi wr => ∃ (k : Nat) (B : Option Addr) (d : Nat) (xs : List Fl), k ≤ ts.length ∧ vi = .int .i64 k ∧ vl = .slice B xs.length d ∧ Hid (pairL (ts.take k) = xs ∧ k % 2 = 0 ∧ xs.length ≤ k) ∧ Own wr w1.heap.size B d xs ∧ Below w1.heap.size w1 wr)
    (fun _ vi _ => ts.length - (intOf vi).toNat)
  case atStart => exact ⟨0, _, 0, [], Nat.zero_le _, rfl, rfl, Lib.hid ⟨rfl, rfl, Nat.le_refl _⟩, own_empty w1, one_below _ _⟩
  case round =>
    obtain ⟨k, B, d, xs, hk, rfl, rfl, HP, hown, hb1⟩ := hrel
    by_cases hlt2 : k + 1 < ts.length
    · have hlt : k < ts.length := by omega
      obtain ⟨b, o, rfl, hcell⟩ := hrd (by omega)
      obtain ⟨x, hx⟩ : ∃ x, ts[k]? = some x := ⟨_, List.getElem?_eq_getElem hlt⟩
      obtain ⟨y, hy⟩ : ∃ y, ts[k + 1]? = some y := ⟨_, List.getElem?_eq_getElem hlt2⟩
      have K1 := Lib.hid (hcell k x hx)
      have K2 := Lib.hid (hcell (k + 1) y hy)
      have c1 := cell_below hb1 K1.out
      have c2 := cell_below hb1 K2.out
      obtain ⟨ys, hys⟩ : ∃ ys, xs ++ [(x, y)] = ys := ⟨_, rfl⟩
      have HN := Lib.hid (show pairL (ts.take (k + 2)) = ys ∧ (k + 2) % 2 = 0 ∧ ys.length ≤ k + 2 by
        refine ⟨by rw [pair_step hx hy HP.out.2.1, HP.out.1, hys], by have := HP.out.2.1; omega, ?_⟩
        rw [← hys, List.length_append]; have := HP.out.2.2; simp; omega)
      have HY := Lib.hid hys
      have hxl : xs.length ≤ 100000 := by have := HP.out.2.2; omega
      have i1 : (k : Int) < (ts.length : Int) := by omega
      have i2 : (k : Int) + 1 < (ts.length : Int) := by omega
      have i3 : (0 : Int) ≤ (k : Int) + 1 := by omega
      have i4 : ((k : Int) + 1).toNat = k + 1 := by omega
      have HD := Lib.hid hrd
      clear hx hy hcell HP hys hrd
      go_wp2_with fail
      have f0 : IntKind.i64.wrap ((k : Int) + 1) = (k : Int) + 1 := IntWalk.i64_in _ (by omega)
      go_region_held3 (fun w' => w'.cell? ⟨b, o + k, none⟩ = some (.string ⟨x.toArray⟩) ∧ w'.cell? ⟨b, o + (k + 1), none⟩ = some (.string ⟨y.toArray⟩)) (first | go_keep | exact ⟨cell_below hbb K1.out, cell_below hbb K2.out⟩)
        ((refine step_append_f (wr.drew.alloc (.cells #[.string ⟨x.toArray⟩, .string ⟨y.toArray⟩] 55)) (by rfl) _ _ (by rfl) w1.heap.size _ xs (by rfl) ((hown.below (below_drew wr)).alloc _) wr.heap.size (x, y) (by rfl) (new_fst wr.drew _ _ _) (new_snd wr.drew _ _ _) (by omega) (by have := hb1.size; simp; omega) ys HY.out ?_; intro B1 d1 w3 hown2 hb3; have hbb := ((bch hb1 (below_drew wr)).alloc (by have := hb1.size; simp; omega) (.cells #[.string ⟨x.toArray⟩, .string ⟨y.toArray⟩] 55)).trans hb3))
      clear f0 c1 c2
      go_wp2_with fail
      go_roundw
      case rel => exact ⟨k + 2, B1, d1, ys, by omega, by go_num, rfl, HN, hown2, hbb⟩
      case measure => simp [intOf]; omega
    · by_cases ho : ts.length % 2 = 0
      · obtain rfl : k = ts.length := by have := HP.out.2.1; omega
        have hxs : pairL ts = xs := by have := HP.out.1; rwa [List.take_length] at this
        have hfx : Fit xs := by rw [← hxs]; exact hfit
        have hxl : xs.length ≤ 100000 := by have := HP.out.2.2; omega
        have q1 : ((ts.length : Int) % 2 == 1) = false := by simp; omega
        rw [hxs] at HV
        have C2 := Lib.hid (rright_any B d xs wr hown.rd hxl hfx)
        have HO := Lib.hid ho
        clear HP hxs hfit hfx ho
        cases hr : rightB xs
        · rw [hr] at C2 HV
          have HV2 := Lib.hid (show V = (5, []) by rw [HV.out, if_neg (fun q => by simp at q)])
          clear hr HV
          go_wp2_with fail
          refine C2.out.mono ?_
          rintro e w2 ⟨rfl, n, rfl⟩
          go_wp2
          go_ret2
          rw [HV2.out]
          exact ⟨none, 0, rfl, World.ownsRow_nil _ _ _ _, bch hb (bch hb1 (drewN_below _ _))⟩
        · rw [hr] at C2 HV
          have HV2 := Lib.hid (show V = (0, xs) by rw [HV.out, if_pos ⟨HO.out, rfl⟩])
          clear hr HV
          go_wp2_with fail
          refine C2.out.mono ?_
          rintro e w2 ⟨rfl, n, rfl⟩
          have hown2 := hown.below (drewN_below wr n)
          clear hown
          go_wp2
          go_ret2
          rw [HV2.out]
          exact ⟨B, d, rfl, hown2.mono hb.size, bch hb (bch hb1 (drewN_below _ _))⟩
      · have q1 : ((ts.length : Int) % 2 == 1) = true := by simp; omega
        have HV2 := Lib.hid (show V = (5, []) by rw [HV.out, if_neg (fun q => ho q.1)])
        clear HV HP ho
        go_wp2_with fail
        go_wp2
        go_ret2
        rw [HV2.out]
        exact ⟨none, 0, rfl, World.ownsRow_nil _ _ _ _, bch hb hb1⟩
end Go.Proofs.YthiojbfhodnlgaaDoor
