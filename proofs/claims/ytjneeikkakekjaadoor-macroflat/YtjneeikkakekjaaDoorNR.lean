/-
  The law's Ref, Refs of macros.
-/
import Derived.Test.YtjneeikkakekjaaDoorNQ
namespace Go.Proofs.YtjneeikkakekjaaDoor
open Go.RowKit

/-- One macro for the document. -/
def RefPost (w : World) (m : Ml) (e : Ending) (w' : World) : Prop :=
  ∃ B d, e = .returned (.agg #[.string ⟨m.1.toArray⟩, .int .i64 m.2.1, .slice B m.2.2.length d]) ∧ Own 81 w' w.heap.size B d m.2.2 ∧ Below w.heap.size w w'
theorem own_set {t : TypeId} {w : World} {base : Nat} {A : Option Addr} {c : Nat} {fs : List Tok} (h : Own t w base A c fs) {p : Addr} (hp : p.block < base) (v : Value) : Own t (w.setCell p v) base A c fs := ownsRow_setCell_below h hp v
set_option maxRecDepth 100000 in
set_option maxHeartbeats 4000000 in
theorem ref7_any (m : Ml) (B : Option Addr) (d : Nat) (w : World) (hm : Rd w B m.2.2) (hl : m.2.2.length ≤ 190000) :
    Calls Tryd.prog 29 #[.agg #[.string ⟨m.1.toArray⟩, .int .i64 m.2.1, .slice B m.2.2.length d]] w (RefPost w m) := by
  obtain ⟨z, p, body⟩ := m
  simp only at hm hl
  obtain ⟨w1, hw1⟩ : ∃ w1, w.alloc (.cells #[.string ⟨z.toArray⟩, .int .i64 p, .slice B body.length d] 55) = w1 := ⟨_, rfl⟩
  have b1 : Below w.heap.size w w1 := by rw [← hw1]; exact one_below _ _
  have s1 : w1.heap.size = w.heap.size + 1 := by rw [← hw1]; simp
  have k1 : w1.heap[w.heap.size]? = some (.cells #[.string ⟨z.toArray⟩, .int .i64 p, .slice B body.length d] 55) := by rw [← hw1]; exact heap_alloc_new _ _
  have b2 := one_below w1 (.cells #[.string ⟨#[]⟩, .int .i64 0, .slice none 0 0] 63)
  have k2 := heap_alloc_new w1 (.cells #[.string ⟨#[]⟩, .int .i64 0, .slice none 0 0] 63)
  have s2 : (w1.alloc (.cells #[.string ⟨#[]⟩, .int .i64 0, .slice none 0 0] 63)).heap.size = w.heap.size + 1 + 1 := by simp [s1]
  have k3 := blk_below b2 k1
  rw [s1] at k2
  obtain ⟨w2, hw2⟩ : ∃ w2, w1.alloc (.cells #[.string ⟨#[]⟩, .int .i64 0, .slice none 0 0] 63) = w2 := ⟨_, rfl⟩
  rw [hw2] at k2 k3 s2 b2
  have c0 : w2.cell? ⟨w.heap.size, 0, none⟩ = some (.string ⟨z.toArray⟩) := cell_of k3 0
  have c1 : w2.cell? ⟨w.heap.size, 1, none⟩ = some (.int .i64 p) := cell_of k3 1
  have c2 : w2.cell? ⟨w.heap.size, 2, none⟩ = some (.slice B body.length d) := cell_of k3 2
  have CR := Lib.hid (fun W (h : Rd W B body) => refs_any B d body W h hl)
  have HB := Lib.hid (bch b1 b2)
  have HM := Lib.hid (show Rd w2.drew B body from (hm.below (bch b1 b2)).drew)
  have K2 := Lib.hid k2
  have K3 := Lib.hid k3
  have S2 := Lib.hid s2
  clear b1 b2 k1 k2 k3 hm s2
  go_enter Tryd.func29, Tryd.ntmps29
  go_wp2_with fail
  go_region_with ((go_at_call 12; refine (CR.out w2.drew HM.out).mono ?_; rintro e w3 ⟨B2, d2, rfl, ho, hb⟩; have g3 := blk_below hb K3.out; have g2 := blk_below hb K2.out; have e0 : w3.cell? ⟨w.heap.size, 0, none⟩ = some (.string ⟨z.toArray⟩) := cell_of g3 0; have e1 : w3.cell? ⟨w.heap.size, 1, none⟩ = some (.int .i64 p) := cell_of g3 1; have r0 : w3.cell? ⟨w.heap.size + 1, 0, none⟩ = some (.string ⟨#[]⟩) := cell_of g2 0; have r1 : w3.cell? ⟨w.heap.size + 1, 1, none⟩ = some (.int .i64 0) := cell_of g2 1; have r2 : w3.cell? ⟨w.heap.size + 1, 2, none⟩ = some (.slice none 0 0) := cell_of g2 2; have f0 := frozen_of g2 0; have f1 := frozen_of g2 1; have f2 := frozen_of g2 2; have G2 := Lib.hid g2; have HO := Lib.hid ho; have HBB := Lib.hid hb; clear g3 g2 ho hb))
  all_goals
    have BK := Lib.hid (blk_set (blk_set (blk_set G2.out 0 (.string ⟨z.toArray⟩)) 1 (.int .i64 p)) 2 (.slice B2 body.length d2))
    have HB3 := Lib.hid (((((HB.out.trans ((below_drew w2).mono (by rw [S2.out]; omega))).trans (HBB.out.mono (by show w.heap.size ≤ w2.heap.size; rw [S2.out]; omega))).setCell (show w.heap.size ≤ w.heap.size + 1 by omega) (p := ⟨w.heap.size + 1, 0, none⟩) (.string ⟨z.toArray⟩)).setCell (show w.heap.size ≤ w.heap.size + 1 by omega) (p := ⟨w.heap.size + 1, 1, none⟩) (.int .i64 p)).setCell (show w.heap.size ≤ w.heap.size + 1 by omega) (p := ⟨w.heap.size + 1, 2, none⟩) (.slice B2 body.length d2))
    have hlt : w.heap.size + 1 < w2.drew.heap.size := by show _ < w2.heap.size; rw [S2.out]; omega
    have HO3 := Lib.hid ((own_set (own_set (own_set HO.out (p := ⟨w.heap.size + 1, 0, none⟩) hlt (.string ⟨z.toArray⟩)) (p := ⟨w.heap.size + 1, 1, none⟩) hlt (.int .i64 p)) (p := ⟨w.heap.size + 1, 2, none⟩) hlt (.slice B2 body.length d2)).mono (base' := w.heap.size) (by show _ ≤ w2.heap.size; rw [S2.out]; omega))
    clear hlt e0 e1 r0 r1 r2 f0 f1 f2 HO HBB G2
    go_wp2
    refine bodyPost_ret (results_cell_row (P := Tryd.prog) rfl _ _ (w.heap.size + 1) 63 #[.string ⟨z.toArray⟩, .int .i64 p, .slice B2 body.length d2] (0, 0) _ (by rfl) BK.out Tryd.underlying63 rfl (by kernel_rfl)) rfl ?_
    exact ⟨B2, d2, rfl, HO3.out, HB3.out⟩
set_option maxRecDepth 100000 in
set_option maxHeartbeats 4000000 in
theorem refs7_any (A : Option Addr) (c : Nat) (fs : List Ml) (w : World) (hr : RdM w A fs) (hc : fs.length ≤ 10000) (hz : Hid (∀ m ∈ fs, m.2.2.length ≤ 190000)) :
    Calls Tryd.prog 33 #[.slice A fs.length c] w (ResM 63 w fs) := by
  have HO0 := Lib.hid (ownM_empty 63 w)
  have HB0 := Lib.hid (one_below w (.cells #[] 63))
  go_enter Tryd.func33, Tryd.ntmps33
  go_wp2_with fail
  go_loopw [3, 4] (fun v i wr => ∃ (k : Nat) (C : Option Addr) (cc : Nat) (xs : List Ml), k ≤ fs.length ∧ i = .int .i64 k ∧ v = .slice C xs.length cc ∧ xs.length ≤ k ∧ Hid (fs.take k = xs) ∧ Hid (OwnM 63 wr w.heap.size C cc xs) ∧ Hid (Below w.heap.size w wr)) (fun _ i _ => fs.length - (intOf i).toNat)
  case atStart => exact ⟨0, _, 0, [], Nat.zero_le _, rfl, rfl, by simp, Lib.hid rfl, HO0, HB0⟩
  case round =>
    clear HO0 HB0
    obtain ⟨k, C, cc, xs, hk, rfl, rfl, hxl, HX, HO, HB⟩ := hrel
    by_cases hlt : k < fs.length
    · obtain ⟨b, o, rfl, hcell⟩ := hr.cells (by omega)
      obtain ⟨f, hf⟩ : ∃ f, fs[k]? = some f := ⟨_, List.getElem?_eq_getElem hlt⟩
      obtain ⟨B, d, c1, c2, c3, hrd⟩ := hcell k f hf
      have hfl := hz.out f (List.mem_of_getElem? hf)
      have k1 := cell_below HB.out c1
      have k2 := cell_below HB.out c2
      have k3 := cell_below HB.out c3
      have i1 : (k : Int) < (fs.length : Int) := by omega
      obtain ⟨ys, hy⟩ : ∃ ys, xs ++ [f] = ys := ⟨_, rfl⟩
      have HN := Lib.hid (show fs.take (k + 1) = ys by rw [at_take hf, HX.out, hy])
      have hyl : ys.length = xs.length + 1 := by rw [← hy]; simp
      have HY := Lib.hid hy
      have HYL := Lib.hid hyl
      have CR := Lib.hid (ref7_any f B d wr (hrd.below HB.out) hfl)
      clear hy hf hcell c1 c2 c3 hrd HX hyl
      go_wp2_with fail
      refine CR.out.mono ?_
      rintro e w1 ⟨B2, d2, rfl, ho1, hb1⟩
      have o1 := one_below w1 (.cells #[.string ⟨f.1.toArray⟩, .int .i64 f.2.1, .slice B2 f.2.2.length d2] 63)
      obtain ⟨q0, q1, q2⟩ := new_three w1 (.string ⟨f.1.toArray⟩) (.int .i64 f.2.1) (.slice B2 f.2.2.length d2) 63
      have HR1 := Lib.hid (one_readM (g := (Value.slice C xs.length cc).ownBlock) q0 q1 q2 (ho1.rd.below o1) (own_far ho1 HO.out.lt))
      have HO1 := Lib.hid ((HO.out.below hb1).below o1)
      have HB1 := Lib.hid (bch (bch HB.out hb1) o1)
      clear q0 q1 q2 o1 HO HB hb1 ho1 CR k1 k2 k3
      go_wp2_with (at_builtin; refine wpList_append_m 53 63 Tryd.underlying53 Tryd.infoM63 _ rfl _ _ rfl w.heap.size C cc xs rfl HO1.out (some ⟨w1.heap.size, 0, none⟩) 1 1 [f] rfl rfl HR1.out (by show xs.length + 1 ≤ _; omega) HB1.out.size ys HY.out ?_; intro N2 nc2 w3 hown2 hb3)
      have HB2 := Lib.hid (HB1.out.trans hb3)
      have HO2 := Lib.hid hown2
      clear hb3 hown2 HO1 HB1
      go_roundw
      case rel => exact ⟨k + 1, N2, nc2, ys, by omega, by go_num, rfl, by have := HYL.out; omega, HN, HO2, HB2⟩
      case measure => simp [intOf]; omega
    · have hfin := HX.out
      rw [List.take_of_length_le (by omega)] at hfin
      have HF := Lib.hid hfin
      have i1 : ¬ (k : Int) < (fs.length : Int) := by omega
      clear hfin HX
      go_wp2
      go_ret
      rw [HF.out]
      exact ⟨C, cc, rfl, HO.out, HB.out⟩
end Go.Proofs.YtjneeikkakekjaaDoor
