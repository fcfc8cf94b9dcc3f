/-
  The walk of MacroFills: for every input it returns true; old memory stays.
-/
import Derived.Test.YtjneeikkakekjaaDoorOB
namespace Go.Proofs.YtjneeikkakekjaaDoor
open Go.RowKit

def fixT (t : Tok) : Tok := if t.1 = 7 ∧ (t.2.length ≠ 1 ∨ Op.bytesLess t.2 [49] = true ∨ Op.bytesLess [57] t.2 = true) then (1, t.2) else t
theorem fix_step {cs : List Tok} {k : Nat} {f : Tok} (h : cs[k]? = some f) (F : Tok → Tok) : ((cs.take k).map F ++ cs.drop k)[k]? = some f ∧ ((cs.take k).map F ++ cs.drop k).set k (F f) = (cs.take (k + 1)).map F ++ cs.drop (k + 1) := by
  have hl := (List.getElem?_eq_some_iff.1 h).1
  have hk : ((cs.take k).map F).length = k := by simp; omega
  rw [drop_one h]
  constructor
  · rw [List.getElem?_append_right (by omega), hk, Nat.sub_self]; rfl
  · rw [List.set_append_right _ _ (by omega), hk, Nat.sub_self, List.set_cons_zero, at_take h, List.map_append, List.append_assoc]; rfl
theorem fix_same {xs : List Tok} {k : Nat} {f : Tok} (h : xs[k]? = some f) (F : Tok → Tok) (e : F f = f) : xs.set k (F f) = xs := by
  rw [e]
  obtain ⟨hl, he⟩ := List.getElem?_eq_some_iff.1 h
  rw [← he, List.set_getElem_self]
theorem fix_mild {cs : List Tok} {n : Nat} (h : ∀ t ∈ cs, t.2.length ≤ n) : ∀ t ∈ cs.map fixT, t.2.length ≤ n := fun t ht => by
  obtain ⟨x, hx, rfl⟩ := List.mem_map.1 ht
  have := h x hx
  unfold fixT
  split
  · exact this
  · exact this
theorem cut20_len {ar : List (List Tok)} : ∀ l ∈ ar.map (cutL 20), l.length ≤ 20 := fun l hl => by
  obtain ⟨x, _, rfl⟩ := List.mem_map.1 hl
  exact cut_len 20 x
theorem own_under {t : TypeId} {w w' : World} {base lo : Nat} {A : Option Addr} {c : Nat} {fs : List Tok} (h : Own t w base A c fs) (hg : ∀ k, (Value.slice A fs.length c).ownBlock = some k → k < lo) (hb : Below lo w w') : Own t w' base A c fs := by
  refine ⟨h.1, ?_⟩
  rcases h.2 with q | ⟨g, cap, cur, h1, h2, h3, r⟩
  · exact .inl q
  · exact .inr ⟨g, cap, cur, h1, h2, (hb.block g (hg g (by rw [h1]; rfl))).trans h3, r⟩
/-- A row of one's own, its length spelt otherwise. -/
def ResN (t : TypeId) (N : Nat) (w : World) (ts : List Tok) (e : Ending) (w' : World) : Prop := ∃ A c, e = .returned (.slice A N c) ∧ Own t w' w.heap.size A c ts ∧ Below w.heap.size w w'
theorem Res.spelt {t : TypeId} {N : Nat} {w : World} {ts : List Tok} {e : Ending} {w' : World} (h : Res t w ts e w') (hN : ts.length = N) : ResN t N w ts e w' := by
  obtain ⟨A, c, he, ho, hb⟩ := h
  exact ⟨A, c, by rw [he, hN], ho, hb⟩
/-- Lists of tokens that fit a machine. -/
def FitL (ll : List (List Tok)) : Prop := ∀ l ∈ ll, l.length ≤ 9223372036854775807 ∧ ∀ t ∈ l, t.2.length ≤ 9223372036854775807
set_option maxRecDepth 100000 in
set_option maxHeartbeats 8000000 in
theorem macroFills_walk (A D : Option Addr) (c dc : Nat) (xs : List Tok) (ll : List (List Tok)) (w : World) (hr : Rd w A xs) (hl : xs.length ≤ 9223372036854775807) (hfit : Hid (∀ t ∈ xs, t.2.length ≤ 9223372036854775807))
    (hrl : RdL w D ll) (hll : ll.length ≤ 9223372036854775807) (hfl : Hid (FitL ll)) :
    Calls Tryd.prog 4 #[.slice A xs.length c, .slice D ll.length dc] w fun e w' => e = .returned (.bool true) ∧ Below w.heap.size w w' := by
  have h60 := cut_len 60 xs
  obtain ⟨N, hN⟩ : ∃ N, (cutL 60 xs).length = N := ⟨_, rfl⟩
  have CT := Lib.hid ((lcut_any A c 60 xs w hr hl hfit (by omega)).mono fun _ _ h => h.spelt hN)
  have m60 := cut_mild 60 xs
  generalize cutL 60 xs = cs at *
  have hml : (cs.map fixT).length = N := by simp [hN]
  have mms := fix_mild m60
  obtain ⟨ar, har⟩ : ∃ ar, (ll.take 9).map (cutL 20) = ar := ⟨_, rfl⟩
  have ha9 : ar.length ≤ 9 := by rw [← har]; simp; omega
  have ha20 : ∀ l ∈ ar, l.length ≤ 20 := by rw [← har]; exact cut20_len
  have HAR := Lib.hid har
  obtain ⟨ms, hms⟩ : ∃ ms, cs.map fixT = ms := ⟨_, rfl⟩
  rw [hms] at hml mms
  have HMS := Lib.hid hms
  have hN60 : N ≤ 60 := by omega
  have hfz : (fillL ms ar).length ≤ 60 * 20 := Nat.le_trans (fill_size (by omega) ha20 ms) (Nat.mul_le_mul_right _ (by omega))
  have WM := Lib.hid (fun A c w (hr : Rd w A ms) => word7_any A c ms w hr (by omega))
  have WR := Lib.hid (fun A c w (hr : Rd w A ms) => rword7_any A c ms w hr (by omega))
  have FM := Lib.hid (fun A D c dc w (hr : Rd w A ms) (hq : RdL w D ar) => fill_any A D c dc ms ar w hr hq (by omega) (by omega) (Lib.hid fun t ht => by have := mms t ht; omega) (by omega))
  have FR := Lib.hid (fun A D c dc w (hr : Rd w A ms) (hq : RdL w D ar) => rfill_any A D c dc ms ar w hr hq (by omega) (by omega) (by omega))
  have TM := Lib.hid (fun A c w (hr : Rd w A ms) => flat_any A c ms w hr (Lib.hid fun t ht => by have := mms t ht; omega) (by omega))
  have TR := Lib.hid (fun A c w (hr : Rd w A ms) => rflat_any A c ms w hr (Lib.hid fun t ht => by have := mms t ht; omega) (by omega))
  have LS := Lib.hid (fun A c w (hr : RdL w A ar) => lists7_any A c ar w hr (by omega) (Lib.hid fun l hl => by have := ha20 l hl; omega))
  have RF := Lib.hid (fun A c w (hr : Rd w A ms) => (refs_any A c ms w hr (by omega)).mono fun _ _ h => h.spelt hml)
  rw [hml] at WM WR FM FR TM TR RF
  have HN := Lib.hid hN
  generalize fillL ms ar = fl at *
  generalize flatL ms = fa at *
  generalize wordE ms = wd at *
  obtain ⟨ws, wb⟩ := wd
  simp only at WM WR
  clear mms har hms ha20 m60 hr hN hml h60
  go_enter Tryd.func4, Tryd.ntmps4
  go_wp2_with fail
  refine CT.out.mono ?_
  rintro e w1 ⟨A1, c1, rfl, ho, hb⟩
  have HG := Lib.hid (show 0 < N → ∃ g, A1 = some ⟨g, 0, none⟩ ∧ w.heap.size ≤ g ∧ g < w1.heap.size from fun h => ho.addr (by rw [HN.out]; exact h))
  have HGZ := Lib.hid (show ∀ k, (Value.slice A1 cs.length c1).ownBlock = some k → k < w1.heap.size from fun k hk => (World.ownsRow.lt ho k hk).2)
  have HW1 := Lib.hid hb.size
  have o1 := one_below w1 (.cells #[] 22)
  have HO := Lib.hid (ho.below o1)
  have HB := Lib.hid (bch hb o1)
  have HLG := Lib.hid (ownLG_empty 22 w1)
  have HS := Lib.hid o1.size
  clear ho hb o1 CT
  go_wp2_with fail
  go_loopw [5, 6] (fun v i wr => ∃ (k : Nat) (C : Option Addr) (cc : Nat) (ys : List (List Tok)), k ≤ ll.length ∧ k ≤ 9 ∧ i = .int .i64 k ∧ v = .slice C ys.length cc ∧ ys.length ≤ 9 ∧ Hid ((ll.take k).map (cutL 20) = ys) ∧ Hid (OwnLG 22 wr w1.heap.size C cc ys) ∧ Hid (Own 41 wr w.heap.size A1 c1 cs) ∧ Hid (Below w.heap.size w wr) ∧ Hid (w1.heap.size ≤ wr.heap.size)) (fun _ i _ => 9 - (intOf i).toNat)
  case atStart => exact ⟨0, _, 0, [], Nat.zero_le _, by omega, rfl, rfl, by simp, Lib.hid rfl, HLG, HO, HB, HS⟩
  case round =>
    clear HLG HO HB HS
    obtain ⟨k, C, cc, ys, hk, hk9, rfl, rfl, hyl, HX, HLG, HO, HB, HS⟩ := hrel
    by_cases hgo : k < ll.length ∧ k < 9
    · obtain ⟨hlt, hlt9⟩ := hgo
      have i1 : (k : Int) < (ll.length : Int) := by omega
      have i2 : (k : Int) < 9 := by omega
      obtain ⟨b, o, rfl, hcell⟩ := hrl (by omega)
      obtain ⟨l, hf⟩ : ∃ l, ll[k]? = some l := ⟨_, List.getElem?_eq_getElem hlt⟩
      obtain ⟨B, d, c2, hrd⟩ := hcell k l hf
      obtain ⟨fz1, fz2⟩ := hfl.out l (List.mem_of_getElem? hf)
      have k2 := cell_below HB.out c2
      have CL := Lib.hid (lcut_any B d 20 l wr (hrd.below HB.out) fz1 (Lib.hid fz2) (by omega))
      have hst : (ll.take (k + 1)).map (cutL 20) = ys ++ [cutL 20 l] := by rw [at_take hf, List.map_append, HX.out]; rfl
      generalize cutL 20 l = l2 at *
      obtain ⟨zs, hz⟩ : ∃ zs, ys ++ [l2] = zs := ⟨_, rfl⟩
      rw [hz] at hst
      have HN := Lib.hid hst
      have HZ := Lib.hid hz
      have HZL := Lib.hid (show zs.length = ys.length + 1 by rw [← hz]; simp)
      have HYK := Lib.hid (show ys.length = k by rw [← HX.out]; simp; omega)
      clear hst hz hf hcell hrd c2 fz1 fz2 HX
      go_wp2_with fail
      refine CL.out.mono ?_
      rintro e w2 ⟨B2, d2, rfl, ho2, hb2⟩
      have SB := bch hb2 (one_below w2 (.cells #[.slice B2 l2.length d2] 22))
      have HLG2 := Lib.hid (HLG.out.below SB)
      have HO2 := Lib.hid (HO.out.below SB)
      have HB2 := Lib.hid (bch HB.out SB)
      have HS2 := Lib.hid (Nat.le_trans HS.out SB.size)
      have HR2 := Lib.hid (ho2.rd.below (one_below w2 (.cells #[.slice B2 l2.length d2] 22)))
      have HF2 := Lib.hid (own_far ho2 HLG.out.lt)
      have HG2 := Lib.hid (show 0 < l2.length → ∀ a, B2 = some a → w1.heap.size ≤ a.block from fun h0 a ha => Nat.le_trans HS.out (own_ge ho2 h0 a ha))
      clear HLG HO HB hb2 SB ho2 CL k2 HS
      go_wp2_with (at_builtin; refine wpList_append_lg 30 22 Tryd.underlying30 Tryd.infoL22 _ rfl _ _ rfl w1.heap.size C cc ys rfl HLG2.out w2.heap.size B2 d2 l2 rfl (new_one _ _ _) HR2.out HF2.out HG2.out (by omega) HS2.out zs HZ.out ?_; intro N2 nc2 w3 hown2 hb3)
      have HLG3 := Lib.hid hown2
      have HO3 := Lib.hid (own_under HO2.out HGZ.out hb3)
      have HB3 := Lib.hid (HB2.out.trans (hb3.mono HW1.out))
      have HS3 := Lib.hid (Nat.le_trans HS2.out hb3.size)
      clear HO2 HB2 HS2 hb3 hown2 HLG2 HR2 HF2 HG2
      go_roundw
      case rel => exact ⟨k + 1, N2, nc2, zs, by omega, by omega, by go_num, rfl, by have := HZL.out; have := HYK.out; omega, HN, HLG3, HO3, HB3, HS3⟩
      case measure => simp [intOf]; omega
    · have hfin := HX.out
      have hys : ys = ar := by
        rw [← hfin, ← HAR.out]
        congr 1
        rw [List.take_eq_take_iff]; omega
      subst hys
      have i3 : ¬ ((k : Int) < (ll.length : Int) ∧ (k : Int) < 9) := by omega
      have hcond : ((k : Int) < (ll.length : Int) ∧ ¬ (k : Int) < 9) ∨ ¬ (k : Int) < (ll.length : Int) := by omega
      have HLR := Lib.hid HLG.out.rd
      have HI0 := Lib.hid (show (([] : List Tok).map fixT ++ cs.drop 0) = cs by simp)
      clear hfin HX i3 HLG hgo
      rcases hcond with ⟨i1, i2⟩ | i1
      all_goals
        go_wp2_with fail
        go_loopw [7] (fun v wr => ∃ (k : Nat) (xs : List Tok), k ≤ N ∧ v = .int .i64 k ∧ Hid (xs.length = N) ∧ Hid ((cs.take k).map fixT ++ cs.drop k = xs) ∧ Hid (Own 41 wr w.heap.size A1 c1 xs) ∧ Hid (RdLG wr w1.heap.size C ys) ∧ Hid (Below w.heap.size w wr)) (fun v _ => N - (intOf v).toNat)
        case atStart => exact ⟨0, cs, Nat.zero_le _, rfl, HN, Lib.hid (by simp), HO, HLR, HB⟩
        case round =>
          clear HO HLR HB
          obtain ⟨k, xs2, hk, rfl, hxl, HX, HO, HLR, HB⟩ := hrel
          by_cases hlt : k < N
          · obtain ⟨g, e1, hg1, hg2⟩ := HG.out (by omega)
            subst e1
            obtain ⟨f, hf⟩ : ∃ f, cs[k]? = some f := ⟨_, List.getElem?_eq_getElem (by rw [HN.out]; exact hlt)⟩
            obtain ⟨hx1, hx2⟩ := fix_step hf fixT
            rw [HX.out] at hx1 hx2
            obtain ⟨c1', c2'⟩ := HO.out.cells2 hx1
            obtain ⟨κ, z⟩ := f
            simp only at c1' c2'
            have j1 : (k : Int) < (N : Int) := by omega
            have hw1 : (κ, z).1 = κ := rfl
            by_cases hch : κ = 7 ∧ (z.length ≠ 1 ∨ Op.bytesLess z [49] = true ∨ Op.bytesLess [57] z = true)
            · have hfx : fixT (κ, z) = (1, z) := by unfold fixT; rw [if_pos hch]
              rw [hfx] at hx2
              have fz := HO.out.frozen (k * 2)
              have HO2 := Lib.hid (HO.out.store1 hx1 1 hx2)
              have HL2 := Lib.hid (show ((cs.take (k + 1)).map fixT ++ cs.drop (k + 1)).length = N by rw [← hx2, List.length_set]; exact hxl.out)
              have HB2 := Lib.hid (HB.out.setCell hg1 (p := ⟨g, k * 2, none⟩) (.int .i64 1))
              have HR2 := Lib.hid (HLR.out.set (q := ⟨g, k * 2, none⟩) hg2 (.int .i64 1))
              obtain ⟨rfl, hch2⟩ := hch
              clear hf hx1 hx2 hfx HX HO HB HLR hw1
              by_cases hz1 : z.length = 1
              · have z1 : ((z.length : Int) != 1) = false := by simp [hz1]
                have z2 : ((z.length : Int) == 1) = true := by simp [hz1]
                have HZ1 := Lib.hid hz1
                rcases (show Op.bytesLess z [49] = true ∨ (Op.bytesLess z [49] = false ∧ Op.bytesLess [57] z = true) by
                  rcases hch2 with h | h | h
                  · exact absurd hz1 h
                  · exact .inl h
                  · cases e : Op.bytesLess z [49]
                    · exact .inr ⟨rfl, h⟩
                    · exact .inl rfl) with hb1 | ⟨hb1, hb2⟩
                all_goals
                  try (have g1 := bl_asymm hb2)
                  try (have g2 : (z == [57]) = false := by rw [beq_eq_false_iff_ne]; exact (bl_ne hb2).symm)
                  clear hch2 hz1
                  go_wp2_with fail
                  go_roundw
                  case rel => exact ⟨k + 1, _, by omega, by go_num, HL2, Lib.hid rfl, HO2, HR2, HB2⟩
                  case measure => simp [intOf]; omega
              · have z1 : ((z.length : Int) != 1) = true := by simp; omega
                have z2 : ((z.length : Int) == 1) = false := by rw [beq_eq_false_iff_ne]; omega
                clear hch2 hz1
                go_wp2_with fail
                go_roundw
                case rel => exact ⟨k + 1, _, by omega, by go_num, HL2, Lib.hid rfl, HO2, HR2, HB2⟩
                case measure => simp [intOf]; omega
            · have hfx : fixT (κ, z) = (κ, z) := by unfold fixT; rw [if_neg hch]
              have hsame := fix_same hx1 fixT hfx
              rw [hx2] at hsame
              have HN2 := Lib.hid hsame
              clear hf hx1 hx2 hfx HX hw1 hsame
              by_cases h7 : κ = 7
              · have hz1 : z.length = 1 := by
                  by_cases e : z.length = 1
                  · exact e
                  · exact absurd ⟨h7, .inl e⟩ hch
                have hb1 : Op.bytesLess z [49] = false := by
                  cases e : Op.bytesLess z [49]
                  · rfl
                  · exact absurd ⟨h7, .inr (.inl e)⟩ hch
                have hb2 : Op.bytesLess [57] z = false := by
                  cases e : Op.bytesLess [57] z
                  · rfl
                  · exact absurd ⟨h7, .inr (.inr e)⟩ hch
                have z1 : ((z.length : Int) != 1) = false := by simp [hz1]
                have z2 : ((z.length : Int) == 1) = true := by simp [hz1]
                subst h7
                have hg : (Op.bytesLess z [57] = true) ∨ (Op.bytesLess z [57] = false ∧ (z == [57]) = true) := by
                  rcases bl_tri z [57] with h | h | h
                  · exact .inl h
                  · exact .inr ⟨by rw [h]; rfl, by rw [h]; rfl⟩
                  · rw [h] at hb2; cases hb2
                clear hch hz1 hb2
                rcases hg with g1 | ⟨g1, g2⟩
                all_goals
                  go_wp2_with fail
                  go_roundw
                  case rel => exact ⟨k + 1, xs2, by omega, by go_num, hxl, HN2, HO, HLR, HB⟩
                  case measure => simp [intOf]; omega
              · have q7 : (κ == 7) = false := by rw [beq_eq_false_iff_ne]; exact h7
                clear hch h7
                go_wp2_with fail
                go_roundw
                case rel => exact ⟨k + 1, xs2, by omega, by go_num, hxl, HN2, HO, HLR, HB⟩
                case measure => simp [intOf]; omega
          · have hxs : xs2 = ms := by
              rw [← HX.out, ← HMS.out, List.take_of_length_le (by rw [HN.out]; omega), List.drop_of_length_le (by rw [HN.out]; omega), List.append_nil]
            subst hxs
            have j2 : ¬ (k : Int) < (N : Int) := by omega
            have R1 := Lib.hid HO.out.rd
            have RL := Lib.hid HLR.out.plain
            have q1 : (ws == ws) = true := by simp
            have q2 : (wb == wb) = true := by simp
            have q3 : (fa == fa) = true := by simp
            clear HO HLR HX
            go_wp2_with fail
            refine (WM.out A1 c1 _ R1.out).mono ?_
            rintro e w2 ⟨rfl, hb⟩
            replace R1 := Lib.hid (R1.out.below hb)
            replace RL := Lib.hid (RL.out.below hb)
            replace HB := Lib.hid (bch HB.out hb)
            clear hb WM
            go_wp2_with fail
            refine (RF.out A1 c1 _ R1.out).mono ?_
            rintro e w3 ⟨A3, c3, rfl, ho, hb⟩
            replace R1 := Lib.hid (R1.out.below hb)
            replace RL := Lib.hid (RL.out.below hb)
            replace HB := Lib.hid (bch HB.out hb)
            have R3 := Lib.hid ho.rd
            clear hb ho
            go_wp2_with fail
            refine (WR.out A3 c3 _ R3.out).mono ?_
            rintro e w4 ⟨rfl, rfl⟩
            clear WR R3
            go_wp2_with fail
            refine (FM.out A1 C c1 cc _ R1.out RL.out).mono ?_
            rintro e w5 ⟨A5, c5, rfl, ho, hb⟩
            replace R1 := Lib.hid (R1.out.below hb)
            replace RL := Lib.hid (RL.out.below hb)
            replace HB := Lib.hid (bch HB.out hb)
            have R5 := Lib.hid ho.rd
            clear hb ho FM
            go_wp2_with fail
            refine (refs_any A5 c5 fl _ R5.out (by omega)).mono ?_
            rintro e w6 ⟨A6, c6, rfl, ho, hb⟩
            replace R1 := Lib.hid (R1.out.below hb)
            replace RL := Lib.hid (RL.out.below hb)
            replace HB := Lib.hid (bch HB.out hb)
            have R6 := Lib.hid ho.rd
            clear hb ho R5
            go_wp2_with fail
            refine (RF.out A1 c1 _ R1.out).mono ?_
            rintro e w7 ⟨A7, c7, rfl, ho, hb⟩
            replace R1 := Lib.hid (R1.out.below hb)
            replace RL := Lib.hid (RL.out.below hb)
            replace R6 := Lib.hid (R6.out.below hb)
            replace HB := Lib.hid (bch HB.out hb)
            have R7 := Lib.hid ho.rd
            clear hb ho
            go_wp2_with fail
            refine (LS.out C cc _ RL.out).mono ?_
            rintro e w8 ⟨A8, c8, rfl, ho, hb⟩
            replace R1 := Lib.hid (R1.out.below hb)
            replace R6 := Lib.hid (R6.out.below hb)
            replace R7 := Lib.hid (R7.out.below hb)
            replace HB := Lib.hid (bch HB.out hb)
            have R8 := Lib.hid ho.rd
            clear hb ho RL LS
            go_wp2_with fail
            refine (FR.out A7 A8 c7 c8 _ R7.out R8.out).mono ?_
            rintro e w9 ⟨A9, c9, rfl, ho, hb⟩
            replace R1 := Lib.hid (R1.out.below hb)
            replace R6 := Lib.hid (R6.out.below hb)
            replace HB := Lib.hid (bch HB.out hb)
            have R9 := Lib.hid ho.rd
            clear hb ho R7 R8 FR
            go_wp2_with fail
            refine (same_eq A6 A9 c6 c9 fl _ R6.out R9.out (by omega)).mono ?_
            rintro e w10 ⟨rfl, hb⟩
            replace R1 := Lib.hid (R1.out.below hb)
            replace HB := Lib.hid (bch HB.out hb)
            clear hb R6 R9
            go_wp2_with fail
            refine (TM.out A1 c1 _ R1.out).mono ?_
            rintro e w11 ⟨rfl, hb⟩
            replace R1 := Lib.hid (R1.out.below hb)
            replace HB := Lib.hid (bch HB.out hb)
            clear hb TM
            go_wp2_with fail
            refine (RF.out A1 c1 _ R1.out).mono ?_
            rintro e w12 ⟨A12, c12, rfl, ho, hb⟩
            replace HB := Lib.hid (bch HB.out hb)
            have R12 := Lib.hid ho.rd
            clear hb ho R1
            go_wp2_with fail
            refine (TR.out A12 c12 _ R12.out).mono ?_
            rintro e w13 ⟨rfl, rfl⟩
            clear TR R12
            go_wp2_with fail
            refine (fixed_any _).mono ?_
            rintro e w14 ⟨rfl, hb⟩
            replace HB := Lib.hid (bch HB.out hb)
            clear hb
            go_wp2
            go_ret
            exact ⟨rfl, HB.out⟩
end Go.Proofs.YtjneeikkakekjaaDoor
