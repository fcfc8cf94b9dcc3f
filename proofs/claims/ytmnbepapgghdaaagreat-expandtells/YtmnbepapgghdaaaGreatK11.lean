/-
  The document's Put of macros.
  Contracts of the document's answer for layer 8: the same notes, the same words, was a file asked for.
-/
import Derived.Test.YtmnbepapgghdaaaGreatK10
import Derived.BigQuiet
namespace Go.Proofs.YtmnbepapgghdaaaGreat
open Go.RowKit

theorem take_plc {fs : List Ml} {n : By} {k : Nat} (h : ∀ i (q : i < fs.length), i < k → Op.bytesLess fs[i].1 n = true) (hk : k ≤ fs.length) (hs : k = fs.length ∨ ∃ f, fs[k]? = some f ∧ Op.bytesLess f.1 n = false) : plc fs n = k := by
  have hl := plc_le fs n
  unfold plc at *
  clear hl
  induction fs generalizing k with
  | nil => simp at hk; simp [hk]
  | cons f r ih =>
    rw [List.takeWhile_cons]
    cases k with
    | zero =>
      rcases hs with hs | ⟨g, hg, hb⟩
      · simp at hs
      · simp at hg; subst hg; simp [hb]
    | succ j =>
      have h0 := h 0 (by simp) (by omega)
      simp only [List.getElem_cons_zero] at h0
      rw [if_pos h0, List.length_cons]
      congr 1
      refine ih (fun i q hi => by have := h (i + 1) (by simpa using q) (by omega); rwa [List.getElem_cons_succ] at this) (by simpa using hk) ?_
      rcases hs with hs | ⟨g, hg, hb⟩
      · left; simpa using hs
      · right; exact ⟨g, by simpa using hg, hb⟩
theorem put_shape (fs : List Ml) (f : Ml) : putL fs f = (dropL fs f.1).take (plc (dropL fs f.1) f.1) ++ [f] ++ (dropL fs f.1).drop (plc (dropL fs f.1) f.1) := by
  unfold putL
  rw [takeWhile_plc, dropWhile_plc]; simp
theorem lt_step {fs : List Ml} {n : By} {k : Nat} {f : Ml} (hf : fs[k]? = some f) (hl : Op.bytesLess f.1 n = true) (h : ∀ i (q : i < fs.length), i < k → Op.bytesLess fs[i].1 n = true) : ∀ i (q : i < fs.length), i < k + 1 → Op.bytesLess fs[i].1 n = true := fun i q hi => by
  rcases Nat.lt_or_ge i k with z | z
  · exact h i q z
  · obtain rfl : i = k := by omega
    rw [get_of hf q]; exact hl
theorem rmac_from {A : Option Addr} {n c l : Nat} (h1 : l ≤ n) (w : World) : (Instr.slice 75 (.slice A n c) (some (.int .i64 l)) none none).run Tryz.prog w = .ok (.slice (cutS 3 A c l) (n - l) (c - l)) w :=
  part_l 75 110 3 (by kernel_rfl) (by kernel_rfl) (sz_run Tryz.infoM110) A n c l h1 w
theorem drop_eq {fs : List Ml} {n : By} : ((dropL fs n).length = fs.length) ↔ hasL fs n = false := by
  have h := dropL_lt fs n
  have hl := dropL_len fs n
  constructor
  · intro e
    rw [← h]; exact decide_eq_false (by omega)
  · intro e
    rw [e] at h
    have := of_decide_eq_false h
    omega
set_option maxRecDepth 100000 in
set_option maxHeartbeats 4000000 in
theorem rput_yes (A : Option Addr) (c : Nat) (fs : List Ml) (z : By) (p : Int) (body : List Tok) (B : Option Addr) (d : Nat) (w : World) (hr : RdM w A fs) (hm : Rd w B body) (hc : fs.length ≤ 1000) (hnl : z.length ≤ 4611686018427387904)
    (hn : Hid (nameB z = true)) (p1 : ¬ p < 0) (p2 : ¬ 9 < p) (hh : Hid (hasL fs z = true ∨ fs.length < 40)) :
    Calls Tryz.prog 86 #[.slice A fs.length c, .agg #[.string ⟨z.toArray⟩, .int .i64 p, .slice B body.length d]] w (ResM2 110 w (putL fs (z, p, body)) 0) := by
  have HS := Lib.hid (put_shape fs (z, p, body))
  simp only at HS
  have HD := Lib.hid (fun (w' : World) (h : RdM w' A fs) => rdrop_any A c fs z w' h (by omega))
  have hdl := dropL_len fs z
  have hq : ((dropL fs z).length = fs.length ∧ fs.length < 40) ∨ (dropL fs z).length ≠ fs.length := by
    by_cases e : (dropL fs z).length = fs.length
    · left
      refine ⟨e, ?_⟩
      rcases hh.out with h | h
      · rw [drop_eq.1 e] at h; cases h
      · exact h
    · exact .inr e
  generalize dropL fs z = ds at HS HD hdl hq
  have b0 := one_below w (.cells #[.string ⟨z.toArray⟩, .int .i64 p, .slice B body.length d] 110)
  obtain ⟨q0, q1, q2⟩ := new_three w (.string ⟨z.toArray⟩) (.int .i64 p) (.slice B body.length d) 110
  have Q0 := Lib.hid q0
  have Q1 := Lib.hid q1
  have Q2 := Lib.hid q2
  have CN := Lib.hid (rnamed_any ⟨z.toArray⟩ (w.alloc (.cells #[.string ⟨z.toArray⟩, .int .i64 p, .slice B body.length d] 110)) hnl)
  rw [show (⟨z.toArray⟩ : ByteArray).data.toList = z from rfl, hn.out] at CN
  have HR := Lib.hid hr
  have HM := Lib.hid hm
  clear hr hm q0 q1 q2
  obtain ⟨eb, hqe⟩ : ∃ eb : Bool, ((ds.length : Int) == (fs.length : Int)) = eb := ⟨_, rfl⟩
  have hcase : (eb = true ∧ ¬ (40 : Int) ≤ (fs.length : Int)) ∨ eb = false := by
    rcases hq with ⟨e, h⟩ | e
    · left; exact ⟨by rw [← hqe, e]; simp, by omega⟩
    · right; rw [← hqe, beq_eq_false_iff_ne]; omega
  clear hq hh
  rcases hcase with ⟨rfl, h40⟩ | rfl
  all_goals
    try (have d40 : decide ((40 : Int) ≤ (fs.length : Int)) = false := decide_eq_false h40)
    go_enter Tryz.func86, Tryz.ntmps86
    go_wp2_with fail
    refine CN.out.mono ?_
    rintro e w1 ⟨rfl, rfl⟩
    have hr1 := HR.out.below b0
    have g0 := Q0.out
    have g1 := Q1.out
    go_wp2_with fail
    refine (HD.out _ hr1).mono ?_
    rintro e w2 ⟨A2, c2, rfl, ho2, hb2⟩
    have hbw := bch b0 hb2
    have m0 := cell_below hb2 Q0.out
    have m1 := cell_below hb2 Q1.out
    have m2 := cell_below hb2 Q2.out
    obtain ⟨cc1, cc2⟩ := ho2.cap
    have HR2 := Lib.hid (ho2.rd.plain)
    have HM2 := Lib.hid (HM.out.below hbw)
    have ho3 := ownM_empty 110 w2
    have hb3 := one_below w2 (.cells #[] 110)
    have HO3 := Lib.hid ho3
    have HB3 := Lib.hid hb3
    have M0 := Lib.hid m0
    have M1 := Lib.hid m1
    have M2 := Lib.hid m2
    clear hr1 HD Q0 Q1 Q2 ho2 g0 g1 ho3 hb3
    go_wp2_with fail
    clear m0 m1 m2
    go_loopw [7, 8] (fun v i wr => ∃ (k : Nat) (C : Option Addr) (cc : Nat) (xs : List Ml), k ≤ ds.length ∧ i = .int .i64 k ∧ v = .slice C xs.length cc ∧ Hid (xs = ds.take k) ∧ xs.length = k ∧ Hid (∀ i (q : i < ds.length), i < k → Op.bytesLess ds[i].1 z = true) ∧ Hid (OwnM 110 wr w2.heap.size C cc xs) ∧ Hid (Below w2.heap.size w2 wr)) (fun _ i _ => ds.length - (intOf i).toNat)
    case atStart => exact ⟨0, _, 0, [], Nat.zero_le _, rfl, rfl, Lib.hid rfl, rfl, Lib.hid (fun i q h => absurd h (by omega)), HO3, HB3⟩
    case round =>
      clear HO3 HB3
      obtain ⟨k, C, cc, xs, hk, rfl, rfl, HX, hxl, HA, HO, HB⟩ := hrel
      have n0 := cell_below HB.out M0.out
      have n1 := cell_below HB.out M1.out
      have n2 := cell_below HB.out M2.out
      by_cases hgo : ∃ g, ds[k]? = some g ∧ Op.bytesLess g.1 z = true
      · obtain ⟨g, hg, hl⟩ := hgo
        have hlt : k < ds.length := by
          rcases Nat.lt_or_ge k ds.length with z | z
          · exact z
          · rw [List.getElem?_eq_none z] at hg; cases hg
        obtain ⟨b, o, rfl, hcell⟩ := HR2.out.cells (by omega)
        obtain ⟨G, gd, a1, a2, a3, hrd⟩ := hcell k g hg
        have k1 := cell_below HB.out a1
        have k2 := cell_below HB.out a2
        have k3 := cell_below HB.out a3
        have HRD := Lib.hid hrd
        obtain ⟨ys, hy⟩ : ∃ ys, xs ++ [g] = ys := ⟨_, rfl⟩
        have HN := Lib.hid (show ys = ds.take (k + 1) by rw [at_take hg, ← HX.out, hy])
        have HY := Lib.hid hy
        have HYL := Lib.hid (show ys.length = k + 1 by rw [← hy]; simp [hxl])
        have HL := Lib.hid (lt_step hg hl HA.out)
        have HK := Lib.hid hxl
        clear hg hcell hxl a1 a2 a3 hrd hy
        have i1 : (k : Int) < (ds.length : Int) := by omega
        go_wp2_with fail
        go_quiet (fail)
        have HB1 := Lib.hid (bch HB.out (drewN_below wr nq))
        have HO1 := Lib.hid (HO.out.below (drewN_below wr nq))
        have k1' : (wr.drewN nq).cell? ⟨b, o + k * 3, none⟩ = _ := k1
        have k2' : (wr.drewN nq).cell? ⟨b, o + k * 3 + 1, none⟩ = _ := k2
        have k3' : (wr.drewN nq).cell? ⟨b, o + k * 3 + 2, none⟩ = _ := k3
        generalize wr.drewN nq = wq at HB1 HO1 k1' k2' k3' ⊢
        clear k1 k2 k3 n0 n1 n2 HO HB
        have o1 := one_below wq (.cells #[.string ⟨g.1.toArray⟩, .int .i64 g.2.1, .slice G g.2.2.length gd] 110)
        obtain ⟨q0, q1, q2⟩ := new_three wq (.string ⟨g.1.toArray⟩) (.int .i64 g.2.1) (.slice G g.2.2.length gd) 110
        have HR3 := Lib.hid (one_readM (g := (Value.slice C xs.length cc).ownBlock) q0 q1 q2 (HRD.out.below (bch HB1.out o1)) (far_own HRD.out HO1.out))
        have HO2 := Lib.hid (HO1.out.below o1)
        have HB2 := Lib.hid (bch HB1.out o1)
        clear q0 q1 q2 o1 HO1 HB1
        go_wp2_with (at_builtin; refine wpList_append_m 75 110 Tryz.underlying75 Tryz.infoM110 _ rfl _ _ rfl w2.heap.size C cc xs rfl HO2.out (some ⟨wq.heap.size, 0, none⟩) 1 1 [g] rfl rfl HR3.out (by have := HK.out; show xs.length + 1 ≤ _; omega) HB2.out.size ys HY.out ?_; intro N2 nc2 w3 hown2 hb3)
        have HB4 := Lib.hid (HB2.out.trans hb3)
        have HO4 := Lib.hid hown2
        clear hb3 hown2 HO2 HB2
        go_roundw
        case rel => exact ⟨k + 1, N2, nc2, ys, by omega, by go_num, rfl, HN, HYL.out, HL, HO4, HB4⟩
        case measure => simp [intOf]; omega
      · have hp : plc ds z = k := take_plc HA.out hk (by
          rcases Nat.lt_or_ge k ds.length with y | y
          · right
            refine ⟨ds[k], List.getElem?_eq_getElem y, ?_⟩
            cases q : Op.bytesLess ds[k].1 z
            · rfl
            · exact absurd ⟨ds[k], List.getElem?_eq_getElem y, q⟩ hgo
          · left; omega)
        have hfin := HS.out
        rw [hp, ← HX.out] at hfin
        have hyl : (ds.drop k).length = ds.length - k := by simp
        have hry := HR2.out.part (l := k) (c := c2) hk cc1
        have e2 := fun w => rmac_from (A := A2) (n := ds.length) (c := c2) (l := k) hk w
        subst hxl
        obtain ⟨r1, hr1⟩ : ∃ r, xs ++ [(z, p, body)] = r := ⟨_, rfl⟩
        rw [hr1] at hfin
        have R1 := Lib.hid hr1
        have R1L := Lib.hid (show r1.length = xs.length + 1 by rw [← hr1]; simp)
        clear hr1
        by_cases hlt : xs.length < ds.length
        · obtain ⟨b, o, rfl, hcell⟩ := HR2.out.cells (by omega)
          obtain ⟨g, hg⟩ : ∃ g, ds[xs.length]? = some g := ⟨_, List.getElem?_eq_getElem hlt⟩
          obtain ⟨G, gd, a1, a2, a3, hrd⟩ := hcell _ g hg
          have k1 := cell_below HB.out a1
          have hl : Op.bytesLess g.1 z = false := by
            cases q : Op.bytesLess g.1 z
            · rfl
            · exact absurd ⟨g, hg, q⟩ hgo
          generalize ds.drop xs.length = ys at hfin hry hyl
          obtain ⟨r2, hr2⟩ : ∃ r, r1 ++ ys = r := ⟨_, rfl⟩
          rw [hr2] at hfin
          have HFIN := Lib.hid hfin
          have R2 := Lib.hid hr2
          have HY := Lib.hid hyl
          rw [← hyl] at e2
          have HRY := Lib.hid hry
          have hsum : xs.length + ys.length ≤ 1000 := by omega
          generalize cutS 3 (some ⟨b, o, none⟩) c2 xs.length = D at e2 HRY
          generalize c2 - xs.length = cd at e2
          clear hp hfin hyl hry hg hcell hgo a1 a2 a3 hrd hr2
          have i1 : (xs.length : Int) < (ds.length : Int) := by omega
          go_wp2_with fail
          go_quiet (fail)
          have HB1 := Lib.hid (bch HB.out (drewN_below wr nq))
          have HO1 := Lib.hid (HO.out.below (drewN_below wr nq))
          have n0' : (wr.drewN nq).cell? ⟨w.heap.size, 0, none⟩ = _ := n0
          have n1' : (wr.drewN nq).cell? ⟨w.heap.size, 1, none⟩ = _ := n1
          have n2' : (wr.drewN nq).cell? ⟨w.heap.size, 2, none⟩ = _ := n2
          generalize wr.drewN nq = wq at HB1 HO1 n0' n1' n2' ⊢
          clear n0 n1 n2 k1 hl HO HB
          have o1 := one_below wq (.cells #[.string ⟨z.toArray⟩, .int .i64 p, .slice B body.length d] 110)
          obtain ⟨q0, q1, q2⟩ := new_three wq (.string ⟨z.toArray⟩) (.int .i64 p) (.slice B body.length d) 110
          have HR3 := Lib.hid (one_readM (m := (z, p, body)) (g := (Value.slice C xs.length cc).ownBlock) q0 q1 q2 (HM2.out.below (bch HB1.out o1)) (far_own HM2.out HO1.out))
          have HO2 := Lib.hid (HO1.out.below o1)
          have HB2 := Lib.hid (bch HB1.out o1)
          clear q0 q1 q2 o1 HO1 HB1
          go_wp2_with (first
            | (at_builtin; refine wpList_append_m 75 110 Tryz.underlying75 Tryz.infoM110 _ rfl (.tmp 62) (.tmp 64) rfl w2.heap.size C cc xs rfl HO2.out (some ⟨wq.heap.size, 0, none⟩) 1 1 [(z, p, body)] rfl rfl HR3.out (by show xs.length + 1 ≤ _; omega) HB2.out.size r1 R1.out ?_
               intro N2 nc2 w3 hown2 hb3
               have HB4 := Lib.hid (HB2.out.trans hb3)
               have HO4 := Lib.hid hown2
               clear hb3 hown2 HO2 HB2)
            | (at_builtin; refine wpList_append_m 75 110 Tryz.underlying75 Tryz.infoM110 _ rfl (.tmp 66) (.tmp 69) rfl w2.heap.size N2 nc2 r1 rfl HO4.out D ys.length cd ys rfl rfl (HRY.out.later HB4.out (fun q hq => HO4.out.ge q hq)) (by have := R1L.out; omega) HB4.out.size r2 R2.out ?_
               intro N4 nc4 w4 hown4 hb4
               have HB5 := Lib.hid (HB4.out.trans hb4)
               have HO5 := Lib.hid hown4
               clear hb4 hown4 HO4 HB4))
          go_ret2
          rw [HFIN.out]
          exact ⟨N4, nc4, rfl, HO5.out.mono hbw.size, bch hbw HB5.out⟩
        · have hye : ds.drop xs.length = [] := List.drop_of_length_le (by omega)
          rw [hye, List.append_nil] at hfin
          have HFIN := Lib.hid hfin
          clear hp hfin hyl hgo hye hry
          have he : ds.length - xs.length = 0 := by omega
          rw [he] at e2
          have hd : ¬ (xs.length : Int) < (ds.length : Int) := by omega
          have hd2 : decide ((xs.length : Int) < (ds.length : Int)) = false := decide_eq_false hd
          generalize cutS 3 A2 c2 xs.length = D at e2
          generalize c2 - xs.length = cd at e2
          clear he
          go_wp2_with fail
          go_quiet (fail)
          have HB1 := Lib.hid (bch HB.out (drewN_below wr nq))
          have HO1 := Lib.hid (HO.out.below (drewN_below wr nq))
          have n0' : (wr.drewN nq).cell? ⟨w.heap.size, 0, none⟩ = _ := n0
          have n1' : (wr.drewN nq).cell? ⟨w.heap.size, 1, none⟩ = _ := n1
          have n2' : (wr.drewN nq).cell? ⟨w.heap.size, 2, none⟩ = _ := n2
          generalize wr.drewN nq = wq at HB1 HO1 n0' n1' n2' ⊢
          clear n0 n1 n2 HO HB
          have o1 := one_below wq (.cells #[.string ⟨z.toArray⟩, .int .i64 p, .slice B body.length d] 110)
          obtain ⟨q0, q1, q2⟩ := new_three wq (.string ⟨z.toArray⟩) (.int .i64 p) (.slice B body.length d) 110
          have HR3 := Lib.hid (one_readM (m := (z, p, body)) (g := (Value.slice C xs.length cc).ownBlock) q0 q1 q2 (HM2.out.below (bch HB1.out o1)) (far_own HM2.out HO1.out))
          have HO2 := Lib.hid (HO1.out.below o1)
          have HB2 := Lib.hid (bch HB1.out o1)
          clear q0 q1 q2 o1 HO1 HB1
          go_wp2_with (first
            | (at_builtin; refine wpList_append_m 75 110 Tryz.underlying75 Tryz.infoM110 _ rfl (.tmp 62) (.tmp 64) rfl w2.heap.size C cc xs rfl HO2.out (some ⟨wq.heap.size, 0, none⟩) 1 1 [(z, p, body)] rfl rfl HR3.out (by show xs.length + 1 ≤ _; omega) HB2.out.size r1 R1.out ?_
               intro N2 nc2 w3 hown2 hb3
               have HB4 := Lib.hid (HB2.out.trans hb3)
               have HO4 := Lib.hid hown2
               clear hb3 hown2 HO2 HB2)
            | (at_builtin; refine wpList_append_m 75 110 Tryz.underlying75 Tryz.infoM110 _ rfl (.tmp 66) (.tmp 69) rfl w2.heap.size N2 nc2 r1 rfl HO4.out D 0 cd [] rfl rfl (RdMF.empty _ _ _) (by have := R1L.out; show r1.length + 0 ≤ _; omega) HB4.out.size r1 (List.append_nil _) ?_
               intro N4 nc4 w4 hown4 hb4
               have HB5 := Lib.hid (HB4.out.trans hb4)
               have HO5 := Lib.hid hown4
               clear hb4 hown4 HO4 HB4))
          go_ret2
          rw [HFIN.out]
          exact ⟨N4, nc4, rfl, HO5.out.mono hbw.size, bch hbw HB5.out⟩
set_option maxRecDepth 100000 in
set_option maxHeartbeats 2000000 in
theorem rput7_any (A : Option Addr) (c : Nat) (fs : List Ml) (m : Ml) (B : Option Addr) (d : Nat) (w : World) (hr : RdM w A fs) (hm : Rd w B m.2.2) (hc : fs.length ≤ 1000) (hnl : m.1.length ≤ 4611686018427387904) :
    Calls Tryz.prog 86 #[.slice A fs.length c, .agg #[.string ⟨m.1.toArray⟩, .int .i64 m.2.1, .slice B m.2.2.length d]] w (ResM2 110 w (putR fs m) (putE fs m)) := by
  obtain ⟨z, p, body⟩ := m
  simp only at hm hnl
  have b0 := one_below w (.cells #[.string ⟨z.toArray⟩, .int .i64 p, .slice B body.length d] 110)
  obtain ⟨q0, q1, q2⟩ := new_three w (.string ⟨z.toArray⟩) (.int .i64 p) (.slice B body.length d) 110
  have CN := Lib.hid (rnamed_any ⟨z.toArray⟩ (w.alloc (.cells #[.string ⟨z.toArray⟩, .int .i64 p, .slice B body.length d] 110)) hnl)
  rw [show (⟨z.toArray⟩ : ByteArray).data.toList = z from rfl] at CN
  cases hnm : nameB z
  · have hw := wrE_name (f := (z, p, body)) hnm
    have he : putE fs (z, p, body) = 2 := by rw [putE_wr (by rw [hw]; decide), hw]
    rw [putR_no (by rw [he]; decide), he]
    rw [hnm] at CN
    clear hnm hw he
    go_enter Tryz.func86, Tryz.ntmps86
    go_wp2_with fail
    refine CN.out.mono ?_
    rintro e w1 ⟨rfl, rfl⟩
    go_wp2
    go_ret2
    exact ⟨none, 0, rfl, ownM_nil _ _ _, b0⟩
  · by_cases hp : p < 0 ∨ 9 < p
    · rw [hnm] at CN
      have hw := wrE_par (f := (z, p, body)) hnm hp
      have he : putE fs (z, p, body) = 1 := by rw [putE_wr (by rw [hw]; decide), hw]
      rw [putR_no (by rw [he]; decide), he]
      clear hnm hw he
      rcases (show p < 0 ∨ (¬ p < 0 ∧ 9 < p) by omega) with h | ⟨h, h2⟩
      all_goals
        clear hp
        go_enter Tryz.func86, Tryz.ntmps86
        go_wp2_with fail
        refine CN.out.mono ?_
        rintro e w1 ⟨rfl, rfl⟩
        go_wp2
        go_ret2
        exact ⟨none, 0, rfl, ownM_nil _ _ _, b0⟩
    · have hw := wrE_fine (f := (z, p, body)) hnm hp
      by_cases hh : hasL fs z = true ∨ fs.length < 40
      · have he := putE_mk hw hh
        rw [putR_yes he, he]
        exact rput_yes A c fs z p body B d w hr hm hc hnl (Lib.hid hnm) (by omega) (by omega) (Lib.hid hh)
      · have hh1 : hasL fs z = false := by
          cases e : hasL fs z
          · rfl
          · exact absurd (.inl e) hh
        have h40 : 40 ≤ fs.length := by
          rcases Nat.lt_or_ge fs.length 40 with y | y
          · exact absurd (.inr y) hh
          · exact y
        have he := putE_full (fs := fs) hw hh1 h40
        rw [putR_no (by rw [he]; decide), he]
        rw [hnm] at CN
        have HD := Lib.hid (fun (w' : World) (h : RdM w' A fs) => rdrop_any A c fs z w' h (by omega))
        have heq := drop_eq.2 hh1
        generalize dropL fs z = ds at HD heq
        have p1 : ¬ p < 0 := by omega
        have p2 : ¬ 9 < p := by omega
        have q : ((ds.length : Int) == (fs.length : Int)) = true := by rw [heq]; simp
        have q' : ((fs.length : Int) == (fs.length : Int)) = true := by simp
        have g40 : (40 : Int) ≤ (fs.length : Int) := by omega
        have g40' : decide ((40 : Int) ≤ (fs.length : Int)) = true := decide_eq_true g40
        have HQ := Lib.hid heq
        have Q0 := Lib.hid q0
        have Q1 := Lib.hid q1
        clear hnm hw he hp hh hh1 heq q0 q1 q2
        go_enter Tryz.func86, Tryz.ntmps86
        go_wp2_with fail
        refine CN.out.mono ?_
        rintro e w1 ⟨rfl, rfl⟩
        have hr1 := hr.below b0
        have g0 := Q0.out
        have g1 := Q1.out
        go_wp2_with fail
        refine (HD.out _ hr1).mono ?_
        rintro e w2 ⟨A2, c2, rfl, ho2, hb2⟩
        go_wp2
        go_ret2
        exact ⟨none, 0, rfl, ownM_nil _ _ _, bch b0 hb2⟩
end Go.Proofs.YtmnbepapgghdaaaGreat

namespace Go.Proofs.YtmnbepapgghdaaaGreat
open Go.RowKit

theorem tk_eqInN (f g : Tok) (w : World) :
    (Op.equalIn 10000 86 (.agg #[.int .i64 f.1, .string ⟨f.2.toArray⟩]) (.agg #[.int .i64 g.1, .string ⟨g.2.toArray⟩])).run Tryz.prog w = .ok (decide (f = g)) w := by
  have u9 := Tryz.underlying9
  have a9 := Tryz.isAgg9
  have z9 := Tryz.sizeOf9
  have u3 := Tryz.underlying3
  have a3 := Tryz.isAgg3
  have z3 := Tryz.sizeOf3
  have hS : Tryz.prog.underlying 86 = some (.struct (Tryz.prog.fieldsOf 86)) := by kernel_rfl
  have hp : Tryz.prog.stoodInHeld 86 = false := by kernel_rfl
  rw [show (10000 : Nat) = 9999 + 1 from rfl, run_equalIn_agg w 9999 86 _ _ hS hp]
  simp only [Program.fieldsOf, Tryz.underlying86]
  go_simp
  obtain ⟨f1, f2⟩ := f
  obtain ⟨g1, g2⟩ := g
  by_cases h1 : f1 = g1 <;> by_cases h2 : f2 = g2 <;> simp [h1, h2]
theorem tk_neq_yesN {f g : Tok} (h : f ≠ g) (w : World) :
    (binOp .neq 86 (.agg #[.int .i64 f.1, .string ⟨f.2.toArray⟩]) (.agg #[.int .i64 g.1, .string ⟨g.2.toArray⟩])).run Tryz.prog w = .ok (.bool true) w := by
  rw [run_neq_struct, tk_eqInN, decide_eq_false h]; rfl
theorem tk_neq_noN {f g : Tok} (h : f = g) (w : World) :
    (binOp .neq 86 (.agg #[.int .i64 f.1, .string ⟨f.2.toArray⟩]) (.agg #[.int .i64 g.1, .string ⟨g.2.toArray⟩])).run Tryz.prog w = .ok (.bool false) w := by
  rw [run_neq_struct, tk_eqInN, decide_eq_true h]; rfl
theorem tk_eqlN (f g : Tok) (w : World) :
    (binOp .eql 86 (.agg #[.int .i64 f.1, .string ⟨f.2.toArray⟩]) (.agg #[.int .i64 g.1, .string ⟨g.2.toArray⟩])).run Tryz.prog w = .ok (.bool (decide (f = g))) w := by
  rw [run_eql_struct, tk_eqInN]; rfl
set_option maxRecDepth 100000 in
set_option maxHeartbeats 1000000 in
theorem rnotes_any (A B : Option Addr) (c d : Nat) (fs gs : List Tok) (w : World) (hr : Rd w A fs) (hq : Rd w B gs) (hc : fs.length ≤ 200000) (hd : gs.length ≤ 200000) :
    Calls Tryz.prog 22 #[.slice A fs.length c, .slice B gs.length d] w fun e w' => e = .returned (.bool (decide (fs = gs))) ∧ ∃ n, w' = w.drewN n := by
  by_cases hl : fs.length = gs.length
  · have q : ((fs.length : Int) != (gs.length : Int)) = false := by simp [hl]
    have HL := Lib.hid hl
    clear hl
    go_enter Tryz.func22, Tryz.ntmps22
    go_wp2
    go_loopw [5] (fun i wr => ∃ k m : Nat, k ≤ fs.length ∧ i = .int .i64 k ∧ fs.take k = gs.take k ∧ wr = w.drewN m) (fun i _ => fs.length - (intOf i).toNat)
    case atStart => exact ⟨0, 0, Nat.zero_le _, rfl, by simp, rfl⟩
    case round =>
      obtain ⟨k, m, hk, rfl, hall, rfl⟩ := hrel
      have Hall := Lib.hid hall
      clear hall
      by_cases hlt : k < fs.length
      · have hlt2 : k < gs.length := by rw [← HL.out]; exact hlt
        obtain ⟨b, o, rfl, hcell⟩ := hr (by omega)
        obtain ⟨b2, o2, rfl, hcell2⟩ := hq (by omega)
        obtain ⟨f, hf⟩ : ∃ f, fs[k]? = some f := ⟨_, List.getElem?_eq_getElem hlt⟩
        obtain ⟨g, hg⟩ : ∃ g, gs[k]? = some g := ⟨_, List.getElem?_eq_getElem hlt2⟩
        obtain ⟨c1, c2⟩ := hcell k f hf
        obtain ⟨e1, e2⟩ := hcell2 k g hg
        have HF := Lib.hid hf
        have HG := Lib.hid hg
        clear hf hcell hr hg hcell2 hq
        have i1 : (k : Int) < (fs.length : Int) := by omega
        have i2 : (k : Int) < (gs.length : Int) := by omega
        by_cases hfg : f = g
        · have hrun := tk_neq_noN hfg
          have HE := Lib.hid hfg
          clear hfg
          go_wp2_with fail
          go_quiet (fail)
          go_wp2
          go_roundw
          case rel => exact ⟨k + 1, _, by omega, by go_num, eq_step HF.out HG.out HE.out Hall.out, rfl⟩
          case measure => simp [intOf]; omega
        · have hrun := tk_neq_yesN hfg
          have HE := Lib.hid hfg
          clear hfg
          go_wp2_with fail
          go_quiet (fail)
          go_wp2
          go_ret
          exact ⟨ret_bool (eq_stop HF.out HG.out HE.out), _, World.drewN_drewN _ _ _⟩
      · go_wp2
        go_ret
        exact ⟨ret_bool (eq_end (by omega) (by rw [← HL.out]; omega) Hall.out), _, rfl⟩
  · have q : ((fs.length : Int) != (gs.length : Int)) = true := by simp; omega
    have HL := Lib.hid hl
    clear hl
    go_enter Tryz.func22, Tryz.ntmps22
    go_wp2
    go_ret
    exact ⟨ret_bool (eq_len HL.out), 0, rfl⟩
/-- A slice that reads as texts. -/
def RdS (w : World) (A : Option Addr) (xs : List By) : Prop :=
  0 < xs.length → ∃ b o, A = some ⟨b, o, none⟩ ∧ ∀ i x, xs[i]? = some x → w.cell? ⟨b, o + i, none⟩ = some (.string ⟨x.toArray⟩)
theorem RdS.below {w w' : World} {A : Option Addr} {xs : List By} (h : RdS w A xs) (hb : Below w.heap.size w w') : RdS w' A xs := fun h0 => by
  obtain ⟨b, o, e, hc⟩ := h h0
  exact ⟨b, o, e, fun i f hi => cell_below hb (hc i f hi)⟩
set_option maxRecDepth 100000 in
set_option maxHeartbeats 400000 in
theorem rwords_any (A B : Option Addr) (c d : Nat) (fs gs : List By) (w : World) (hr : RdS w A fs) (hq : RdS w B gs) (hc : fs.length ≤ 100000) (hd : gs.length ≤ 100000) :
    Calls Tryz.prog 31 #[.slice A fs.length c, .slice B gs.length d] w fun e w' => e = .returned (.bool (decide (fs = gs))) ∧ ∃ n, w' = w.drewN n := by
  by_cases hl : fs.length = gs.length
  · have q : ((fs.length : Int) != (gs.length : Int)) = false := by simp [hl]
    have HL := Lib.hid hl
    clear hl
    go_enter Tryz.func31, Tryz.ntmps31
    go_wp2
    go_loopw [5] (fun i wr => ∃ k m : Nat, k ≤ fs.length ∧ i = .int .i64 k ∧ fs.take k = gs.take k ∧ wr = w.drewN m) (fun i _ => fs.length - (intOf i).toNat)
    case atStart => exact ⟨0, 0, Nat.zero_le _, rfl, by simp, rfl⟩
    case round =>
      obtain ⟨k, m, hk, rfl, hall, rfl⟩ := hrel
      have Hall := Lib.hid hall
      clear hall
      by_cases hlt : k < fs.length
      · have hlt2 : k < gs.length := by rw [← HL.out]; exact hlt
        obtain ⟨b, o, rfl, hcell⟩ := hr (by omega)
        obtain ⟨b2, o2, rfl, hcell2⟩ := hq (by omega)
        obtain ⟨f, hf⟩ : ∃ f, fs[k]? = some f := ⟨_, List.getElem?_eq_getElem hlt⟩
        obtain ⟨g, hg⟩ : ∃ g, gs[k]? = some g := ⟨_, List.getElem?_eq_getElem hlt2⟩
        have c1 := hcell k f hf
        have e1 := hcell2 k g hg
        have HF := Lib.hid hf
        have HG := Lib.hid hg
        clear hf hcell hr hg hcell2 hq
        have i1 : (k : Int) < (fs.length : Int) := by omega
        have i2 : (k : Int) < (gs.length : Int) := by omega
        by_cases hfg : f = g
        · have hrun : (f == g) = true := by simpa using hfg
          have HE := Lib.hid hfg
          clear hfg
          go_wp2_with fail
          go_quiet (fail)
          go_wp2
          go_roundw
          case rel => exact ⟨k + 1, _, by omega, by go_num, eq_step HF.out HG.out HE.out Hall.out, rfl⟩
          case measure => simp [intOf]; omega
        · have hrun : (f == g) = false := by simpa using hfg
          have HE := Lib.hid hfg
          clear hfg
          go_wp2_with fail
          go_quiet (fail)
          go_wp2
          go_ret
          exact ⟨ret_bool (eq_stop HF.out HG.out HE.out), _, World.drewN_drewN _ _ _⟩
      · go_wp2
        go_ret
        exact ⟨ret_bool (eq_end (by omega) (by rw [← HL.out]; omega) Hall.out), _, rfl⟩
  · have q : ((fs.length : Int) != (gs.length : Int)) = true := by simp; omega
    have HL := Lib.hid hl
    clear hl
    go_enter Tryz.func31, Tryz.ntmps31
    go_wp2
    go_ret
    exact ⟨ret_bool (eq_len HL.out), 0, rfl⟩


theorem mem_stop {fs : List By} {k : Nat} {f g : By} (hf : fs[k]? = some f) (he : f = g) : true = decide (g ∈ fs) := (decide_eq_true (by rw [← he]; exact List.mem_of_getElem? hf)).symm
theorem mem_step {fs : List By} {k : Nat} {f g : By} (hf : fs[k]? = some f) (hne : f ≠ g) (h : g ∉ fs.take k) : g ∉ fs.take (k + 1) := by
  rw [List.take_add_one, hf]
  simp only [Option.toList_some, List.mem_append, List.mem_singleton, not_or]
  exact ⟨h, fun e => hne e.symm⟩
theorem mem_end {fs : List By} {k : Nat} {g : By} (h1 : fs.length ≤ k) (h : g ∉ fs.take k) : false = decide (g ∈ fs) := by
  rw [List.take_of_length_le h1] at h
  exact (decide_eq_false h).symm
set_option maxRecDepth 100000 in
set_option maxHeartbeats 1000000 in
/-- Was a file asked for? The list is the sixth cell of what the pointer names. -/
theorem rasked_any (p : Nat) (RA : Option Addr) (rc : Nat) (fs : List By) (g : By) (w : World) (hp : w.cell? ⟨p, 6, none⟩ = some (.slice RA fs.length rc)) (hr : RdS w RA fs) (hc : fs.length ≤ 100000) :
    Calls Tryz.prog 53 #[.pointer (some ⟨p, 0, none⟩), .string ⟨g.toArray⟩] w fun e w' => e = .returned (.bool (decide (g ∈ fs))) ∧ w = w' := by
  go_enter Tryz.func53, Tryz.ntmps53
  go_wp2
  go_loopw [5] (fun i wr => ∃ k : Nat, k ≤ fs.length ∧ i = .int .i64 k ∧ g ∉ fs.take k ∧ wr = w) (fun i _ => fs.length - (intOf i).toNat)
  case atStart => exact ⟨0, Nat.zero_le _, rfl, by simp, rfl⟩
  case round =>
    obtain ⟨k, hk, rfl, hall, rfl⟩ := hrel
    have Hall := Lib.hid hall
    clear hall
    by_cases hlt : k < fs.length
    · obtain ⟨b, o, rfl, hcell⟩ := hr (by omega)
      obtain ⟨f, hf⟩ : ∃ f, fs[k]? = some f := ⟨_, List.getElem?_eq_getElem hlt⟩
      have c1 := hcell k f hf
      have HF := Lib.hid hf
      clear hf hcell hr
      have i1 : (k : Int) < (fs.length : Int) := by omega
      by_cases hfg : f = g
      · have hrun : (f == g) = true := by simpa using hfg
        have HE := Lib.hid hfg
        clear hfg
        go_wp2
        go_ret
        exact ⟨ret_bool (mem_stop HF.out HE.out), rfl⟩
      · have hrun : (f == g) = false := by simpa using hfg
        have HE := Lib.hid hfg
        clear hfg
        go_wp2
        go_roundw
        case rel => exact ⟨k + 1, by omega, by go_num, mem_step HF.out HE.out Hall.out, by first | rfl | trivial⟩
        case measure => simp [intOf]; omega
    · go_wp2
      go_ret
      exact ⟨ret_bool (mem_end (by omega) Hall.out), rfl⟩
end Go.Proofs.YtmnbepapgghdaaaGreat
