/-
  The document's Put of macros, bodies in blocks that satisfy a predicate.
  Lists of lists, each in blocks that satisfy a predicate; the document's Args.
-/
import Derived.Test.YtmnbepapgghdaaaGreatK12
import Derived.Deep.RegionWith
import Derived.Test.YtmnbepapgghdaaaGreatK06
namespace Go.Proofs.YtmnbepapgghdaaaGreat.Pq
open Go.RowKit

def ResM2 (P : Nat → Prop) (t : TypeId) (w : World) (ms : List Ml) (v : Int) (e : Ending) (w' : World) : Prop := ∃ A c, e = .returned (.tuple #[.slice A ms.length c, .int .i64 v]) ∧ OwnM P t w' w.heap.size A c ms ∧ Below w.heap.size w w'
set_option maxRecDepth 100000 in
set_option maxHeartbeats 4000000 in
theorem rput_yes {P : Nat → Prop} (A : Option Addr) (c : Nat) (fs : List Ml) (z : By) (p : Int) (body : List Tok) (B : Option Addr) (d : Nat) (w : World) (hr : RdM P w A fs) (hm : Rd w B body) (hmp : Hid (0 < body.length → ∀ a, B = some a → P a.block)) (hc : fs.length ≤ 1000) (hnl : z.length ≤ 4611686018427387904)
    (hn : Hid (nameB z = true)) (p1 : ¬ p < 0) (p2 : ¬ 9 < p) (hh : Hid (hasL fs z = true ∨ fs.length < 40)) :
    Calls Tryz.prog 86 #[.slice A fs.length c, .agg #[.string ⟨z.toArray⟩, .int .i64 p, .slice B body.length d]] w (ResM2 P 110 w (putL fs (z, p, body)) 0) := by
  have HS := Lib.hid (put_shape fs (z, p, body))
  simp only at HS
  have HD := Lib.hid (fun (w' : World) (h : RdM P w' A fs) => rdrop_any A c fs z w' h (by omega))
  have hdl := dropL_len fs z
  have hq : ((dropL fs z).length = fs.length ∧ fs.length < 40) ∨ (dropL fs z).length ≠ fs.length := by
    by_cases e : (dropL fs z).length = fs.length
    · left
      refine ⟨e, ?_⟩
      rcases hh.out with h | h
      · rw [drop_eq.1 e] at h; cases h
      · exact h
    · exact .inr e
  generalize dropL fs z = ds at HS HD hdl hq
  have b0 := one_below w (.cells #[.string ⟨z.toArray⟩, .int .i64 p, .slice B body.length d] 110)
  obtain ⟨q0, q1, q2⟩ := new_three w (.string ⟨z.toArray⟩) (.int .i64 p) (.slice B body.length d) 110
  have Q0 := Lib.hid q0
  have Q1 := Lib.hid q1
  have Q2 := Lib.hid q2
  have CN := Lib.hid (rnamed_any ⟨z.toArray⟩ (w.alloc (.cells #[.string ⟨z.toArray⟩, .int .i64 p, .slice B body.length d] 110)) hnl)
  rw [show (⟨z.toArray⟩ : ByteArray).data.toList = z from rfl, hn.out] at CN
  have HR := Lib.hid hr
  have HM := Lib.hid hm
  clear hr hm q0 q1 q2
  obtain ⟨eb, hqe⟩ : ∃ eb : Bool, ((ds.length : Int) == (fs.length : Int)) = eb := ⟨_, rfl⟩
  have hcase : (eb = true ∧ ¬ (40 : Int) ≤ (fs.length : Int)) ∨ eb = false := by
    rcases hq with ⟨e, h⟩ | e
    · left; exact ⟨by rw [← hqe, e]; simp, by omega⟩
    · right; rw [← hqe, beq_eq_false_iff_ne]; omega
  clear hq hh
  rcases hcase with ⟨rfl, h40⟩ | rfl
  all_goals
    try (have d40 : decide ((40 : Int) ≤ (fs.length : Int)) = false := decide_eq_false h40)
    go_enter Tryz.func86, Tryz.ntmps86
    go_wp2_with fail
    refine CN.out.mono ?_
    rintro e w1 ⟨rfl, rfl⟩
    have hr1 := HR.out.below b0
    have g0 := Q0.out
    have g1 := Q1.out
    go_wp2_with fail
    refine (HD.out _ hr1).mono ?_
    rintro e w2 ⟨A2, c2, rfl, ho2, hb2⟩
    have hbw := bch b0 hb2
    have m0 := cell_below hb2 Q0.out
    have m1 := cell_below hb2 Q1.out
    have m2 := cell_below hb2 Q2.out
    obtain ⟨cc1, cc2⟩ := ho2.cap
    have HR2 := Lib.hid (ho2.rd.plain)
    have HM2 := Lib.hid (HM.out.below hbw)
    have ho3 := ownM_empty (P := P) 110 w2
    have hb3 := one_below w2 (.cells #[] 110)
    have HO3 := Lib.hid ho3
    have HB3 := Lib.hid hb3
    have M0 := Lib.hid m0
    have M1 := Lib.hid m1
    have M2 := Lib.hid m2
    clear hr1 HD Q0 Q1 Q2 ho2 g0 g1 ho3 hb3
    go_wp2_with fail
    clear m0 m1 m2
    go_loopw [7, 8] (fun v i wr => ∃ (k : Nat) (C : Option Addr) (cc : Nat) (xs : List Ml), k ≤ ds.length ∧ i = .int .i64 k ∧ v = .slice C xs.length cc ∧ Hid (xs = ds.take k) ∧ xs.length = k ∧ Hid (∀ i (q : i < ds.length), i < k → Op.bytesLess ds[i].1 z = true) ∧ Hid (OwnM P 110 wr w2.heap.size C cc xs) ∧ Hid (Below w2.heap.size w2 wr)) (fun _ i _ => ds.length - (intOf i).toNat)
    case atStart => exact ⟨0, _, 0, [], Nat.zero_le _, rfl, rfl, Lib.hid rfl, rfl, Lib.hid (fun i q h => absurd h (by omega)), HO3, HB3⟩
    case round =>
      clear HO3 HB3
      obtain ⟨k, C, cc, xs, hk, rfl, rfl, HX, hxl, HA, HO, HB⟩ := hrel
      have n0 := cell_below HB.out M0.out
      have n1 := cell_below HB.out M1.out
      have n2 := cell_below HB.out M2.out
      by_cases hgo : ∃ g, ds[k]? = some g ∧ Op.bytesLess g.1 z = true
      · obtain ⟨g, hg, hl⟩ := hgo
        have hlt : k < ds.length := by
          rcases Nat.lt_or_ge k ds.length with z | z
          · exact z
          · rw [List.getElem?_eq_none z] at hg; cases hg
        obtain ⟨b, o, rfl, hcell⟩ := HR2.out.cells (by omega)
        obtain ⟨G, gd, a1, a2, a3, hrd, hpp⟩ := hcell k g hg
        have k1 := cell_below HB.out a1
        have k2 := cell_below HB.out a2
        have k3 := cell_below HB.out a3
        have HRD := Lib.hid hrd
        have HPP := Lib.hid hpp
        obtain ⟨ys, hy⟩ : ∃ ys, xs ++ [g] = ys := ⟨_, rfl⟩
        have HN := Lib.hid (show ys = ds.take (k + 1) by rw [at_take hg, ← HX.out, hy])
        have HY := Lib.hid hy
        have HYL := Lib.hid (show ys.length = k + 1 by rw [← hy]; simp [hxl])
        have HL := Lib.hid (lt_step hg hl HA.out)
        have HK := Lib.hid hxl
        clear hg hcell hxl a1 a2 a3 hrd hpp hy
        have i1 : (k : Int) < (ds.length : Int) := by omega
        go_wp2_with fail
        go_quiet (fail)
        have HB1 := Lib.hid (bch HB.out (drewN_below wr nq))
        have HO1 := Lib.hid (HO.out.below (drewN_below wr nq))
        have k1' : (wr.drewN nq).cell? ⟨b, o + k * 3, none⟩ = _ := k1
        have k2' : (wr.drewN nq).cell? ⟨b, o + k * 3 + 1, none⟩ = _ := k2
        have k3' : (wr.drewN nq).cell? ⟨b, o + k * 3 + 2, none⟩ = _ := k3
        generalize wr.drewN nq = wq at HB1 HO1 k1' k2' k3' ⊢
        clear k1 k2 k3 n0 n1 n2 HO HB
        have o1 := one_below wq (.cells #[.string ⟨g.1.toArray⟩, .int .i64 g.2.1, .slice G g.2.2.length gd] 110)
        obtain ⟨q0, q1, q2⟩ := new_three wq (.string ⟨g.1.toArray⟩) (.int .i64 g.2.1) (.slice G g.2.2.length gd) 110
        have HR3 := Lib.hid (one_readM (g := (Value.slice C xs.length cc).ownBlock) q0 q1 q2 (HRD.out.below (bch HB1.out o1)) (far_own HRD.out HPP.out HO1.out))
        have HO2 := Lib.hid (HO1.out.below o1)
        have HB2 := Lib.hid (bch HB1.out o1)
        clear q0 q1 q2 o1 HO1 HB1
        go_wp2_with (at_builtin; refine wpList_append_m 75 110 Tryz.underlying75 Tryz.infoM110 _ rfl _ _ rfl w2.heap.size C cc xs rfl HO2.out (some ⟨wq.heap.size, 0, none⟩) 1 1 [g] rfl rfl HR3.out (by have := HK.out; show xs.length + 1 ≤ _; omega) HB2.out.size ys HY.out ?_; intro N2 nc2 w3 hown2 hb3)
        have HB4 := Lib.hid (HB2.out.trans hb3)
        have HO4 := Lib.hid hown2
        clear hb3 hown2 HO2 HB2
        go_roundw
        case rel => exact ⟨k + 1, N2, nc2, ys, by omega, by go_num, rfl, HN, HYL.out, HL, HO4, HB4⟩
        case measure => simp [intOf]; omega
      · have hp : plc ds z = k := take_plc HA.out hk (by
          rcases Nat.lt_or_ge k ds.length with y | y
          · right
            refine ⟨ds[k], List.getElem?_eq_getElem y, ?_⟩
            cases q : Op.bytesLess ds[k].1 z
            · rfl
            · exact absurd ⟨ds[k], List.getElem?_eq_getElem y, q⟩ hgo
          · left; omega)
        have hfin := HS.out
        rw [hp, ← HX.out] at hfin
        have hyl : (ds.drop k).length = ds.length - k := by simp
        have hry := HR2.out.part (l := k) (c := c2) hk cc1
        have e2 := fun w => rmac_from (A := A2) (n := ds.length) (c := c2) (l := k) hk w
        subst hxl
        obtain ⟨r1, hr1⟩ : ∃ r, xs ++ [(z, p, body)] = r := ⟨_, rfl⟩
        rw [hr1] at hfin
        have R1 := Lib.hid hr1
        have R1L := Lib.hid (show r1.length = xs.length + 1 by rw [← hr1]; simp)
        clear hr1
        by_cases hlt : xs.length < ds.length
        · obtain ⟨b, o, rfl, hcell⟩ := HR2.out.cells (by omega)
          obtain ⟨g, hg⟩ : ∃ g, ds[xs.length]? = some g := ⟨_, List.getElem?_eq_getElem hlt⟩
          obtain ⟨G, gd, a1, a2, a3, hrd, hpp⟩ := hcell _ g hg
          have k1 := cell_below HB.out a1
          have hl : Op.bytesLess g.1 z = false := by
            cases q : Op.bytesLess g.1 z
            · rfl
            · exact absurd ⟨g, hg, q⟩ hgo
          generalize ds.drop xs.length = ys at hfin hry hyl
          obtain ⟨r2, hr2⟩ : ∃ r, r1 ++ ys = r := ⟨_, rfl⟩
          rw [hr2] at hfin
          have HFIN := Lib.hid hfin
          have R2 := Lib.hid hr2
          have HY := Lib.hid hyl
          rw [← hyl] at e2
          have HRY := Lib.hid hry
          have hsum : xs.length + ys.length ≤ 1000 := by omega
          generalize cutS 3 (some ⟨b, o, none⟩) c2 xs.length = D at e2 HRY
          generalize c2 - xs.length = cd at e2
          clear hp hfin hyl hry hg hcell hgo a1 a2 a3 hrd hpp hr2
          have i1 : (xs.length : Int) < (ds.length : Int) := by omega
          go_wp2_with fail
          go_quiet (fail)
          have HB1 := Lib.hid (bch HB.out (drewN_below wr nq))
          have HO1 := Lib.hid (HO.out.below (drewN_below wr nq))
          have n0' : (wr.drewN nq).cell? ⟨w.heap.size, 0, none⟩ = _ := n0
          have n1' : (wr.drewN nq).cell? ⟨w.heap.size, 1, none⟩ = _ := n1
          have n2' : (wr.drewN nq).cell? ⟨w.heap.size, 2, none⟩ = _ := n2
          generalize wr.drewN nq = wq at HB1 HO1 n0' n1' n2' ⊢
          clear n0 n1 n2 k1 hl HO HB
          have o1 := one_below wq (.cells #[.string ⟨z.toArray⟩, .int .i64 p, .slice B body.length d] 110)
          obtain ⟨q0, q1, q2⟩ := new_three wq (.string ⟨z.toArray⟩) (.int .i64 p) (.slice B body.length d) 110
          have HR3 := Lib.hid (one_readM (m := (z, p, body)) (g := (Value.slice C xs.length cc).ownBlock) q0 q1 q2 (HM2.out.below (bch HB1.out o1)) (far_own HM2.out hmp.out HO1.out))
          have HO2 := Lib.hid (HO1.out.below o1)
          have HB2 := Lib.hid (bch HB1.out o1)
          clear q0 q1 q2 o1 HO1 HB1
          go_wp2_with (first
            | (at_builtin; refine wpList_append_m 75 110 Tryz.underlying75 Tryz.infoM110 _ rfl (.tmp 62) (.tmp 64) rfl w2.heap.size C cc xs rfl HO2.out (some ⟨wq.heap.size, 0, none⟩) 1 1 [(z, p, body)] rfl rfl HR3.out (by show xs.length + 1 ≤ _; omega) HB2.out.size r1 R1.out ?_
               intro N2 nc2 w3 hown2 hb3
               have HB4 := Lib.hid (HB2.out.trans hb3)
               have HO4 := Lib.hid hown2
               clear hb3 hown2 HO2 HB2)
            | (at_builtin; refine wpList_append_m 75 110 Tryz.underlying75 Tryz.infoM110 _ rfl (.tmp 66) (.tmp 69) rfl w2.heap.size N2 nc2 r1 rfl HO4.out D ys.length cd ys rfl rfl (HRY.out.later HB4.out (fun q hq => HO4.out.ge q hq)) (by have := R1L.out; omega) HB4.out.size r2 R2.out ?_
               intro N4 nc4 w4 hown4 hb4
               have HB5 := Lib.hid (HB4.out.trans hb4)
               have HO5 := Lib.hid hown4
               clear hb4 hown4 HO4 HB4))
          go_ret2
          rw [HFIN.out]
          exact ⟨N4, nc4, rfl, HO5.out.mono hbw.size, bch hbw HB5.out⟩
        · have hye : ds.drop xs.length = [] := List.drop_of_length_le (by omega)
          rw [hye, List.append_nil] at hfin
          have HFIN := Lib.hid hfin
          clear hp hfin hyl hgo hye hry
          have he : ds.length - xs.length = 0 := by omega
          rw [he] at e2
          have hd : ¬ (xs.length : Int) < (ds.length : Int) := by omega
          have hd2 : decide ((xs.length : Int) < (ds.length : Int)) = false := decide_eq_false hd
          generalize cutS 3 A2 c2 xs.length = D at e2
          generalize c2 - xs.length = cd at e2
          clear he
          go_wp2_with fail
          go_quiet (fail)
          have HB1 := Lib.hid (bch HB.out (drewN_below wr nq))
          have HO1 := Lib.hid (HO.out.below (drewN_below wr nq))
          have n0' : (wr.drewN nq).cell? ⟨w.heap.size, 0, none⟩ = _ := n0
          have n1' : (wr.drewN nq).cell? ⟨w.heap.size, 1, none⟩ = _ := n1
          have n2' : (wr.drewN nq).cell? ⟨w.heap.size, 2, none⟩ = _ := n2
          generalize wr.drewN nq = wq at HB1 HO1 n0' n1' n2' ⊢
          clear n0 n1 n2 HO HB
          have o1 := one_below wq (.cells #[.string ⟨z.toArray⟩, .int .i64 p, .slice B body.length d] 110)
          obtain ⟨q0, q1, q2⟩ := new_three wq (.string ⟨z.toArray⟩) (.int .i64 p) (.slice B body.length d) 110
          have HR3 := Lib.hid (one_readM (m := (z, p, body)) (g := (Value.slice C xs.length cc).ownBlock) q0 q1 q2 (HM2.out.below (bch HB1.out o1)) (far_own HM2.out hmp.out HO1.out))
          have HO2 := Lib.hid (HO1.out.below o1)
          have HB2 := Lib.hid (bch HB1.out o1)
          clear q0 q1 q2 o1 HO1 HB1
          go_wp2_with (first
            | (at_builtin; refine wpList_append_m 75 110 Tryz.underlying75 Tryz.infoM110 _ rfl (.tmp 62) (.tmp 64) rfl w2.heap.size C cc xs rfl HO2.out (some ⟨wq.heap.size, 0, none⟩) 1 1 [(z, p, body)] rfl rfl HR3.out (by show xs.length + 1 ≤ _; omega) HB2.out.size r1 R1.out ?_
               intro N2 nc2 w3 hown2 hb3
               have HB4 := Lib.hid (HB2.out.trans hb3)
               have HO4 := Lib.hid hown2
               clear hb3 hown2 HO2 HB2)
            | (at_builtin; refine wpList_append_m 75 110 Tryz.underlying75 Tryz.infoM110 _ rfl (.tmp 66) (.tmp 69) rfl w2.heap.size N2 nc2 r1 rfl HO4.out D 0 cd [] rfl rfl (RdMF.empty _ _ _) (by have := R1L.out; show r1.length + 0 ≤ _; omega) HB4.out.size r1 (List.append_nil _) ?_
               intro N4 nc4 w4 hown4 hb4
               have HB5 := Lib.hid (HB4.out.trans hb4)
               have HO5 := Lib.hid hown4
               clear hb4 hown4 HO4 HB4))
          go_ret2
          rw [HFIN.out]
          exact ⟨N4, nc4, rfl, HO5.out.mono hbw.size, bch hbw HB5.out⟩
set_option maxRecDepth 100000 in
set_option maxHeartbeats 2000000 in
theorem rput7_any {P : Nat → Prop} (A : Option Addr) (c : Nat) (fs : List Ml) (m : Ml) (B : Option Addr) (d : Nat) (w : World) (hr : RdM P w A fs) (hm : Rd w B m.2.2) (hmp : Hid (0 < m.2.2.length → ∀ a, B = some a → P a.block)) (hc : fs.length ≤ 1000) (hnl : m.1.length ≤ 4611686018427387904) :
    Calls Tryz.prog 86 #[.slice A fs.length c, .agg #[.string ⟨m.1.toArray⟩, .int .i64 m.2.1, .slice B m.2.2.length d]] w (ResM2 P 110 w (putR fs m) (putE fs m)) := by
  obtain ⟨z, p, body⟩ := m
  simp only at hm hnl
  have b0 := one_below w (.cells #[.string ⟨z.toArray⟩, .int .i64 p, .slice B body.length d] 110)
  obtain ⟨q0, q1, q2⟩ := new_three w (.string ⟨z.toArray⟩) (.int .i64 p) (.slice B body.length d) 110
  have CN := Lib.hid (rnamed_any ⟨z.toArray⟩ (w.alloc (.cells #[.string ⟨z.toArray⟩, .int .i64 p, .slice B body.length d] 110)) hnl)
  rw [show (⟨z.toArray⟩ : ByteArray).data.toList = z from rfl] at CN
  cases hnm : nameB z
  · have hw := wrE_name (f := (z, p, body)) hnm
    have he : putE fs (z, p, body) = 2 := by rw [putE_wr (by rw [hw]; decide), hw]
    rw [putR_no (by rw [he]; decide), he]
    rw [hnm] at CN
    clear hnm hw he
    go_enter Tryz.func86, Tryz.ntmps86
    go_wp2_with fail
    refine CN.out.mono ?_
    rintro e w1 ⟨rfl, rfl⟩
    go_wp2
    go_ret2
    exact ⟨none, 0, rfl, ownM_nil _ _ _, b0⟩
  · by_cases hp : p < 0 ∨ 9 < p
    · rw [hnm] at CN
      have hw := wrE_par (f := (z, p, body)) hnm hp
      have he : putE fs (z, p, body) = 1 := by rw [putE_wr (by rw [hw]; decide), hw]
      rw [putR_no (by rw [he]; decide), he]
      clear hnm hw he
      rcases (show p < 0 ∨ (¬ p < 0 ∧ 9 < p) by omega) with h | ⟨h, h2⟩
      all_goals
        clear hp
        go_enter Tryz.func86, Tryz.ntmps86
        go_wp2_with fail
        refine CN.out.mono ?_
        rintro e w1 ⟨rfl, rfl⟩
        go_wp2
        go_ret2
        exact ⟨none, 0, rfl, ownM_nil _ _ _, b0⟩
    · have hw := wrE_fine (f := (z, p, body)) hnm hp
      by_cases hh : hasL fs z = true ∨ fs.length < 40
      · have he := putE_mk hw hh
        rw [putR_yes he, he]
        exact rput_yes A c fs z p body B d w hr hm hmp hc hnl (Lib.hid hnm) (by omega) (by omega) (Lib.hid hh)
      · have hh1 : hasL fs z = false := by
          cases e : hasL fs z
          · rfl
          · exact absurd (.inl e) hh
        have h40 : 40 ≤ fs.length := by
          rcases Nat.lt_or_ge fs.length 40 with y | y
          · exact absurd (.inr y) hh
          · exact y
        have he := putE_full (fs := fs) hw hh1 h40
        rw [putR_no (by rw [he]; decide), he]
        rw [hnm] at CN
        have HD := Lib.hid (fun (w' : World) (h : RdM P w' A fs) => rdrop_any A c fs z w' h (by omega))
        have heq := drop_eq.2 hh1
        generalize dropL fs z = ds at HD heq
        have p1 : ¬ p < 0 := by omega
        have p2 : ¬ 9 < p := by omega
        have q : ((ds.length : Int) == (fs.length : Int)) = true := by rw [heq]; simp
        have q' : ((fs.length : Int) == (fs.length : Int)) = true := by simp
        have g40 : (40 : Int) ≤ (fs.length : Int) := by omega
        have g40' : decide ((40 : Int) ≤ (fs.length : Int)) = true := decide_eq_true g40
        have HQ := Lib.hid heq
        have Q0 := Lib.hid q0
        have Q1 := Lib.hid q1
        clear hnm hw he hp hh hh1 heq q0 q1 q2
        go_enter Tryz.func86, Tryz.ntmps86
        go_wp2_with fail
        refine CN.out.mono ?_
        rintro e w1 ⟨rfl, rfl⟩
        have hr1 := hr.below b0
        have g0 := Q0.out
        have g1 := Q1.out
        go_wp2_with fail
        refine (HD.out _ hr1).mono ?_
        rintro e w2 ⟨A2, c2, rfl, ho2, hb2⟩
        go_wp2
        go_ret2
        exact ⟨none, 0, rfl, ownM_nil _ _ _, bch b0 hb2⟩
end Go.Proofs.YtmnbepapgghdaaaGreat.Pq

namespace Go.Proofs.YtmnbepapgghdaaaGreat.Pq
open Go.RowKit

/-- A row of one's own that holds these lists, each in another block. -/
def OwnL (P : Nat → Prop) (t : TypeId) (w : World) (base : Nat) (A : Option Addr) (c : Nat) (ll : List (List Tok)) : Prop :=
  ∃ cs : List Value, w.ownsRow base t 1 (Value.slice A ll.length c) ll.length cs ∧ ∀ (i : Nat) (l : List Tok), ll[i]? = some l → ∃ (B : Option Addr) (d : Nat), cs[i]? = some (Value.slice B l.length d) ∧ Rd w B l ∧ (0 < l.length → Far P (Value.slice A ll.length c).ownBlock B)
theorem OwnL.rd {P : Nat → Prop} {t : TypeId} {w : World} {base : Nat} {A : Option Addr} {c : Nat} {ll : List (List Tok)} (h : OwnL P t w base A c ll) : RdL w A ll := fun h0 => by
  obtain ⟨cs, hown, hc⟩ := h
  obtain ⟨g, cap, hv, _, _⟩ := World.ownsRow.form hown h0
  simp only [Value.slice.injEq] at hv
  obtain ⟨rfl, _, _⟩ := hv
  refine ⟨g, 0, rfl, fun i l hi => ?_⟩
  obtain ⟨B, d, h1, h2, _⟩ := hc i l hi
  have hlt : i < ll.length := (List.getElem?_eq_some_iff.1 hi).1
  have c1 := World.ownsRow.cellAt hown i (by omega)
  rw [Nat.zero_add]
  exact ⟨B, d, c1.trans h1, h2⟩
theorem OwnL.below {P : Nat → Prop} {t : TypeId} {w w' : World} {base : Nat} {A : Option Addr} {c : Nat} {ll : List (List Tok)} (h : OwnL P t w base A c ll) (hb : Below w.heap.size w w') : OwnL P t w' base A c ll := by
  obtain ⟨cs, hown, hc⟩ := h
  refine ⟨cs, own_row_below hown hb, fun i l hi => ?_⟩
  obtain ⟨B, d, h1, h2, h3⟩ := hc i l hi
  exact ⟨B, d, h1, h2.below hb, h3⟩
theorem OwnL.lt {P : Nat → Prop} {t : TypeId} {w : World} {base : Nat} {A : Option Addr} {c : Nat} {ll : List (List Tok)} (h : OwnL P t w base A c ll) : ∀ g, (Value.slice A ll.length c).ownBlock = some g → g < w.heap.size := fun g hg => by
  obtain ⟨cs, hown, _⟩ := h
  exact (hown.lt g hg).2
theorem ownL_empty {P : Nat → Prop} (t : TypeId) (w : World) : OwnL P t (w.alloc (.cells #[] t)) w.heap.size (some ⟨w.heap.size, 0, none⟩) 0 [] :=
  ⟨[], World.ownsRow_lit w #[] 0 (Nat.le_refl _) (by unfold maxLen; omega) (by simp), fun i l hi => by simp at hi⟩
/-- A list of one's own lies in another block than what was there before. -/
theorem own_far {P : Nat → Prop} {t : TypeId} {w : World} {base : Nat} {B : Option Addr} {d : Nat} {l : List Tok} (h : Own t w base B d l) {g : Option Nat} (hg : ∀ k, g = some k → k < base) (hP : ∀ k, base ≤ k → P k) : 0 < l.length → Far P g B := fun h0 a ha => by
  obtain ⟨k, cap, hv, hb, _⟩ := World.ownsRow.form h h0
  simp only [Value.slice.injEq] at hv
  obtain ⟨rfl, _, _⟩ := hv
  cases ha
  refine ⟨fun e => ?_, hP _ hb⟩
  have := hg _ e.symm
  simp only at this
  omega
theorem run_append_l {P : Nat → Prop} (T E : TypeId) (hT : Tryz.prog.underlying T = some (.slice E)) (hI : (Tryz.prog.info? E).map (fun i => (i.zero, i.size, i.bytes)) = some (some (.slice none 0 0), 1, 24))
    (w : World) (base : Nat) (ty : TypeId) (A : Option Addr) (c : Nat) (ll : List (List Tok)) (hown : OwnL P E w base A c ll) (g : Nat) (B : Option Addr) (d : Nat) (l : List Tok)
    (hc : w.cell? ⟨g, 0, none⟩ = some (.slice B l.length d)) (hr : Rd w B l) (hf : 0 < l.length → Far P (Value.slice A ll.length c).ownBlock B) (hlen : ll.length + 1 ≤ 200000) (hbase : base ≤ w.heap.size) :
    ∃ A' c' w', (Builtin.append_ #[T, T] ty #[.slice A ll.length c, .slice (some ⟨g, 0, none⟩) 1 1]).run Tryz.prog w = .ok (.slice A' (ll ++ [l]).length c') w' ∧ OwnL P E w' base A' c' (ll ++ [l]) ∧ Below base w w' ∧ w.grownBy w' (Value.slice A ll.length c).ownBlock := by
  obtain ⟨i0, hi, hz0, hz1, hz2⟩ := info_parts hI
  obtain ⟨cs, ho, hcs⟩ := hown
  have hlt := fun k hk => (ho.lt k hk)
  obtain ⟨v', w', h1, h2, h3, _, h5⟩ := run_append_own_at (P := Tryz.prog) w base T ty E i0 _ 1 24 hT hi hz0 hz1 hz2 rfl (by decide) (.slice A ll.length c) ll.length cs ho ⟨g, 0, none⟩ 1 1 [.slice B l.length d] rfl
    (fun j u hu => by
      match j, hu with
      | 0, hu => simp at hu; subst hu; rw [add_lit]; exact hc
      | j + 1, hu => simp at hu)
    (fun u hu => by simp at hu; subst hu; rfl) (by unfold maxLen; omega) (by omega) hbase
  obtain ⟨A', c', rfl⟩ := own_shape h2
  have e1 : ll.length + 1 = (ll ++ [l]).length := by simp
  rw [e1] at h1 h2 h5
  have far : ∀ (B : Option Addr) (m : List Tok), Rd w B m → (0 < m.length → Far P (Value.slice A ll.length c).ownBlock B) → 0 < m.length → Far P (Value.slice A' (ll ++ [l]).length c').ownBlock B := fun B m hm hfm h0 a ha => ⟨fun e => by
    obtain ⟨b, o, eb, hcm⟩ := hm h0
    rcases h5 with q | q
    · rw [q] at e; exact (hfm h0 a ha).1 e
    · rw [q] at e
      obtain ⟨f, hf0⟩ : ∃ f, m[0]? = some f := ⟨_, List.getElem?_eq_getElem h0⟩
      have hl := World.block_lt_of_cell? w _ (hcm 0 f hf0).1
      rw [eb] at ha
      cases ha
      have := Option.some.inj e
      simp only at this hl
      omega, (hfm h0 a ha).2⟩
  refine ⟨A', c', w', h1, ⟨cs ++ [.slice B l.length d], h2, fun i m hi => ?_⟩, below_grown ho h3 hbase, h3⟩
  rcases Nat.lt_or_ge i ll.length with q | q
  · rw [List.getElem?_append_left q] at hi
    obtain ⟨B2, d2, k1, k2, k3⟩ := hcs i m hi
    have hcl : i < cs.length := (List.getElem?_eq_some_iff.1 k1).1
    exact ⟨B2, d2, by rw [List.getElem?_append_left hcl]; exact k1, k2.grown h3 (fun h0 a ha => (k3 h0 a ha).1), far B2 m k2 k3⟩
  · have hil : i = ll.length := by
      have := (List.getElem?_eq_some_iff.1 hi).1
      simp at this; omega
    subst hil
    rw [List.getElem?_append_right (Nat.le_refl _), Nat.sub_self] at hi
    simp at hi
    subst hi
    have hcl : cs.length = ll.length := by have := ho.1; omega
    exact ⟨B, d, by rw [List.getElem?_append_right (by omega), hcl, Nat.sub_self]; rfl, hr.grown h3 (fun h0 a ha => (hf h0 a ha).1), far B l hr hf⟩
theorem wpList_append_l {P : Nat → Prop} (T E : TypeId) (hT : Tryz.prog.underlying T = some (.slice E)) (hI : (Tryz.prog.info? E).map (fun i => (i.zero, i.size, i.bytes)) = some (some (.slice none 0 0), 1, 24))
    {ops : Array Oper} {rest : List Oper} {o : Oper} {a : Act} {Q : Exit → Act → World → Prop} (w : World) (hgd : o.guard = none) (s x : Operand)
    (ho : o.op = .call { callee := .builtin .append, args := #[s, x], argTypes := #[T, T] }) (base : Nat) (A : Option Addr) (c : Nat) (ll : List (List Tok)) (hs : a.eval s = .slice A ll.length c) (hown : OwnL P E w base A c ll)
    (g : Nat) (B : Option Addr) (d : Nat) (l : List Tok) (hx : a.eval x = .slice (some ⟨g, 0, none⟩) 1 1) (hc : w.cell? ⟨g, 0, none⟩ = some (.slice B l.length d)) (hr : Rd w B l) (hf : 0 < l.length → Far P (Value.slice A ll.length c).ownBlock B)
    (hlen : ll.length + 1 ≤ 200000) (hbase : base ≤ w.heap.size) (r : List (List Tok)) (hr0 : ll ++ [l] = r)
    (h : ∀ A' c' w', OwnL P E w' base A' c' r → Below base w w' → wpList Tryz.prog ops Q rest (a.put o.dst (.slice A' r.length c')) w') : wpList Tryz.prog ops Q (o :: rest) a w := by
  subst hr0
  refine wpList_plain hgd fun K hK => ?_
  obtain ⟨A', c', w', hrun, h2, h3, _⟩ := run_append_l T E hT hI w base o.type A c ll hown g B d l hc hr hf hlen hbase
  unfold Oper.wp
  simp only [execOp, ho, resolve, invoke, builtin, Sem.run_bind, Sem.run_pure, Result.andThen_ok, List.map_toArray, List.map_cons, List.map_nil, hs, hx, hrun]
  exact hK _ _ (h A' c' w' h2 h3)
theorem ownL_nil {P : Nat → Prop} (t : TypeId) (w : World) (base : Nat) : OwnL P t w base none 0 [] := ⟨[], ⟨rfl, .inl ⟨rfl, rfl⟩⟩, fun i l hi => by simp at hi⟩
def ArgsPost (P : Nat → Prop) (t : TypeId) (w : World) (r : List (List Tok) × Int × Int) (e : Ending) (w' : World) : Prop :=
  ∃ A c, e = .returned (.tuple #[.slice A r.1.length c, .int .i64 r.2.1, .int .i64 r.2.2]) ∧ OwnL P t w' w.heap.size A c r.1 ∧ Below w.heap.size w w'
set_option maxRecDepth 100000 in
set_option maxHeartbeats 8000000 in
theorem rargs_any {P : Nat → Prop} (A : Option Addr) (c : Nat) (ts : List Tok) (x y : Int) (w : World) (hr : Rd w A ts) (hl : ts.length ≤ 100000) (hcap : ts.length ≤ c) (hc63 : c ≤ 9223372036854775807) (hP : Hid (∀ k, w.heap.size ≤ k → P k)) :
    Calls Tryz.prog 87 #[.slice A ts.length c, .int .i64 x, .int .i64 y] w (ArgsPost P 35 w (argsE ts x y)) := by
  have HO0 := Lib.hid (ownL_nil (P := P) 35 w w.heap.size)
  have HBR := Lib.hid (Below.refl w.heap.size w)
  by_cases hx0 : x < 0
  · rw [argsE_out (.inl (by omega))]
    go_enter Tryz.func87, Tryz.ntmps87
    go_wp2
    go_ret3
    exact ⟨none, 0, rfl, HO0.out, HBR.out⟩
  · by_cases hx1 : (ts.length : Int) < x
    · rw [argsE_out (.inl (by omega))]
      go_enter Tryz.func87, Tryz.ntmps87
      go_wp2
      go_ret3
      exact ⟨none, 0, rfl, HO0.out, HBR.out⟩
    · by_cases hy1 : y < 0
      · rw [argsE_out (.inr (.inl hy1))]
        go_enter Tryz.func87, Tryz.ntmps87
        go_wp2
        go_ret3
        exact ⟨none, 0, rfl, HO0.out, HBR.out⟩
      · by_cases hy2 : 9 < y
        · rw [argsE_out (.inr (.inr hy2))]
          go_enter Tryz.func87, Tryz.ntmps87
          go_wp2
          go_ret3
          exact ⟨none, 0, rfl, HO0.out, HBR.out⟩
        · obtain ⟨a, rfl⟩ : ∃ a : Nat, x = a := ⟨x.toNat, by omega⟩
          obtain ⟨n, rfl⟩ : ∃ n : Nat, y = n := ⟨y.toNat, by omega⟩
          have ha : a ≤ ts.length := by omega
          have hn : n ≤ 9 := by omega
          rw [argsE_in ha hn]
          obtain ⟨G, hG⟩ : ∃ G, argsG ts n a = G := ⟨_, rfl⟩
          rw [hG]
          have HG := Lib.hid (show (argsG ts (n - 0) a).map (fun x => ([] ++ x.1, x.2)) = G by rw [← hG]; simp)
          have HO1 := Lib.hid (ownL_empty (P := P) 35 w)
          have HB1 := Lib.hid (one_below w (.cells #[] 35))
          clear hG HO0 HBR
          go_enter Tryz.func87, Tryz.ntmps87
          go_wp2_with fail
          go_loopw [10, 9, 1] (fun v10 v9 v1 wr => ∃ (j p : Nat) (C : Option Addr) (cc : Nat) (out : List (List Tok)), v10 = .int .i64 j ∧ v9 = .slice C out.length cc ∧ v1 = .int .i64 p ∧ j ≤ n ∧ p ≤ ts.length ∧ out.length ≤ j ∧ Hid ((argsG ts (n - j) p).map (fun x => (out ++ x.1, x.2)) = G) ∧ Hid (OwnL P 35 wr w.heap.size C cc out) ∧ Hid (Below w.heap.size w wr)) (fun v10 _ _ _ => n - (intOf v10).toNat)
          case atStart => exact ⟨0, a, _, 0, [], rfl, rfl, rfl, Nat.zero_le _, ha, Nat.le_refl _, HG, HO1, HB1⟩
          case round =>
            clear HG HO1 HB1 ha hx0 hx1
            obtain ⟨j, p, C, cc, out, rfl, rfl, rfl, hj, hp, hout, HE, HO, HB⟩ := hrel
            by_cases hlt : j < n
            · have i1 : (j : Int) < (n : Int) := by omega
              have hrw := hr.below HB.out
              obtain ⟨hs1, hs2⟩ := skip_le hp
              obtain ⟨s, hs⟩ : ∃ s, skipN ts p = s := ⟨_, rfl⟩
              rw [hs] at hs1 hs2
              have HS := Lib.hid hs
              have HRW := Lib.hid hrw
              clear hrw
              go_wp2_with fail
              go_loop [1] (fun v => ∃ k : Nat, v = .int .i64 k ∧ k ≤ ts.length ∧ Hid (skipN ts k = s)) (fun v => ts.length - (intOf v).toNat)
              case atStart => exact ⟨p, rfl, hp, HS⟩
              case round =>
                obtain ⟨k, rfl, hk, HK⟩ := hrel
                by_cases hkl : k < ts.length
                · obtain ⟨b, o, rfl, hcell⟩ := HRW.out (by omega)
                  obtain ⟨f, hf⟩ : ∃ f, ts[k]? = some f := ⟨_, List.getElem?_eq_getElem hkl⟩
                  obtain ⟨c1, c2⟩ := hcell k f hf
                  have i2 : (k : Int) < (ts.length : Int) := by omega
                  by_cases h2 : f.1 = 2
                  · have HN := Lib.hid ((skip_step hf h2).symm.trans HK.out)
                    rw [h2] at c1
                    clear hf hcell h2 HK hs c2
                    go_wp2
                    go_round
                    case rel => exact ⟨k + 1, by go_num, by omega, HN⟩
                    case measure => simp [intOf]; omega
                  · have e := (skip_stop hf h2).symm.trans HK.out
                    subst e
                    have q2 : (f.1 == 2) = false := by simpa using h2
                    clear hf hcell h2 HK c2
                    have hE := HE.out
                    rw [show n - j = (n - (j + 1)) + 1 by omega] at hE
                    have HE2 := Lib.hid hE
                    have HC := Lib.hid c1
                    clear hE HE hs c1
                    cases hgr : grpN ts k with
                    | none =>
                      have HGN := Lib.hid hgr
                      have HGR := Lib.hid (show grpE ts k = (0, 10) by rw [grpE_in hk, hgr]; rfl)
                      have c1 := HC.out
                      clear hgr HC
                      have HN := Lib.hid (args_stop (by rw [HS.out]; exact HGN.out) HE2.out)
                      have C2 := Lib.hid (rgroup_any (some ⟨b, o, none⟩) c ts k wr HRW.out (by omega))
                      rw [HGR.out] at C2
                      clear HGN HE2 HO
                      go_wp2_with fail
                      refine C2.out.mono ?_
                      rintro e w2 ⟨rfl, rfl⟩
                      go_wp2
                      go_ret3
                      rw [HN.out]
                      exact ⟨none, 0, rfl, ownL_nil _ _ _, HB.out⟩
                    | some q =>
                      obtain ⟨hq1, hq2, hq3, _⟩ := grp_some hgr
                      have hst := args_step (by rw [HS.out]; exact hgr) HE2.out
                      rw [HS.out] at hst
                      have hwl := within_len hq3 hq2
                      have hpart := fun w => rtok_part (A := some ⟨b, o, none⟩) (n := ts.length) (c := c) (l := k + 1) (h := q - 1) (by omega) (by omega) w
                      rw [show ((k + 1 : Nat) : Int) = (k : Int) + 1 by omega, show ((q - 1 : Nat) : Int) = (q : Int) - 1 by omega] at hpart
                      have hrp : Rd wr (cutS 2 (some ⟨b, o, none⟩) c (k + 1)) (within ts k q) := HRW.out.part (by omega) hcap
                      obtain ⟨i, hi⟩ : ∃ i, within ts k q = i := ⟨_, rfl⟩
                      have hil : i.length ≤ 100000 := by rw [← hi]; have := within_le (l := ts) (a := k) (p := q); omega
                      rw [hi] at hst hwl hrp
                      rw [← hwl] at hpart
                      generalize cutS 2 (some ⟨b, o, none⟩) c (k + 1) = B at *
                      generalize c - (k + 1) = d at *
                      obtain ⟨o2, ho2⟩ : ∃ o2, out ++ [i] = o2 := ⟨_, rfl⟩
                      rw [ho2] at hst
                      have HN := Lib.hid hst
                      have HYL := Lib.hid (show o2.length = out.length + 1 by rw [← ho2]; simp)
                      have HY := Lib.hid ho2
                      have HGR := Lib.hid (show grpE ts k = ((q : Int), 0) by rw [grpE_in hk, hgr]; rfl)
                      have HRP := Lib.hid hrp
                      have HQ := Lib.hid hq3
                      have C2 := Lib.hid (rgroup_any (some ⟨b, o, none⟩) c ts k wr HRW.out (by omega))
                      rw [HGR.out] at C2
                      have HIL := Lib.hid hil
                      have c1 := HC.out
                      clear hgr HE2 hst hrp hi ho2 hwl hil HC
                      go_wp2_with fail
                      refine C2.out.mono ?_
                      rintro e w2 ⟨rfl, rfl⟩
                      have SB := one_below wr (.cells #[] 82)
                      have HSB := Lib.hid SB
                      have HR2 := Lib.hid (HRP.out.below SB)
                      have HE0 := Lib.hid (own_empty 82 wr)
                      have hil : i.length ≤ 100000 := HIL.out
                      clear SB HRP C2 c1
                      go_wp2_with (at_builtin; first
                        | (refine wpList_append_rdn40 _ rfl _ _ rfl wr.heap.size _ [] rfl HE0.out B i.length d i rfl rfl HR2.out (by show 0 + i.length ≤ _; omega) HSB.out.size i rfl ?_
                           intro B2 d2 w3 ho3 hb3
                           have S3 := HSB.out.trans hb3
                           have SB3 := S3.trans ((one_below w3 (.cells #[.slice B2 i.length d2] 35)).mono S3.size)
                           have HO3 := Lib.hid (HO.out.below SB3)
                           have HB3 := Lib.hid (bch HB.out SB3)
                           have HR3 := Lib.hid (ho3.rd.below (one_below w3 (.cells #[.slice B2 i.length d2] 35)))
                           have HF3 := Lib.hid (own_far ho3 HO.out.lt fun k hk => hP.out k (Nat.le_trans HB.out.size hk))
                           clear HO ho3 hb3 S3 SB3 HE0 HR2 HSB HB)
                        | (refine wpList_append_l 113 35 Tryz.underlying113 Tryz.infoL35 _ rfl _ _ rfl w.heap.size C cc out rfl HO3.out w3.heap.size B2 d2 i rfl (new_one _ _ _) HR3.out HF3.out (by omega) HB3.out.size o2 HY.out ?_
                           intro N2 nc2 w4 hown4 hb4
                           have HB4 := Lib.hid (HB3.out.trans hb4)
                           have HO4 := Lib.hid hown4
                           clear HO3 HB3 hb4 hown4))
                      go_roundw
                      case rel => exact ⟨j + 1, q, N2, nc2, o2, by go_num, rfl, rfl, by omega, HQ.out, by have := HYL.out; omega, HN, HO4, HB4⟩
                      case measure => simp [intOf]; omega
                · have e := (skip_end (by omega)).symm.trans HK.out
                  subst e
                  have i2 : ¬ (k : Int) < (ts.length : Int) := by omega
                  clear HK
                  have hE := HE.out
                  rw [show n - j = (n - (j + 1)) + 1 by omega] at hE
                  have HE2 := Lib.hid hE
                  have HGN := Lib.hid (grp_out (l := ts) (a := k) (by omega))
                  have HGR := Lib.hid (show grpE ts k = (0, 10) by rw [grpE_in hk, HGN.out]; rfl)
                  clear hE HE hs
                  have HN := Lib.hid (args_stop (by rw [HS.out]; exact HGN.out) HE2.out)
                  have C2 := Lib.hid (rgroup_any A c ts k wr HRW.out (by omega))
                  rw [HGR.out] at C2
                  clear HGN HE2 HO
                  go_wp2_with fail
                  refine C2.out.mono ?_
                  rintro e w2 ⟨rfl, rfl⟩
                  go_wp2
                  go_ret3
                  rw [HN.out]
                  exact ⟨none, 0, rfl, ownL_nil _ _ _, HB.out⟩
            · have hE := HE.out
              rw [show n - j = 0 by omega] at hE
              have HN := Lib.hid (args_end hE)
              have i1 : ¬ (j : Int) < (n : Int) := by omega
              clear hE HE
              go_wp2
              go_ret3
              rw [HN.out]
              exact ⟨C, cc, rfl, HO.out, HB.out⟩
end Go.Proofs.YtmnbepapgghdaaaGreat.Pq
