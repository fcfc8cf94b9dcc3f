/-
  slices.Grow, slices.Concat of macros; package macro: join.
-/
import Derived.Test.YtjneeikkakekjaaDoorNK
import Derived.Lib.AppendZerosOnto
namespace Go.Proofs.YtjneeikkakekjaaDoor
open Go.RowKit

theorem grown_own (w : World) (k : Nat) (hk : k ≤ 200000) (z : Value) (hz : z.cells.size = 3) :
    OwnM 55 (w.drew.alloc (.cells (([] : List Value).toArray ++ Builtin.zeroCells z.cells k ++ Builtin.zeroCells z.cells (grownCap w k 0 55 - k)) 55)) w.heap.size (some ⟨w.heap.size, 0, none⟩) (grownCap w k 0 55) [] := by
  have h1 := grownCap_ge w k 0 55
  have h2 := grownCap_le_maxLen w k 0 55 (by unfold maxLen; omega)
  refine ⟨[], ⟨by simp, .inr ⟨w.heap.size, grownCap w k 0 55, _, rfl, Nat.le_refl _, heap_alloc_new w.drew _, Nat.zero_le _, h2, ?_, by simp⟩⟩, rfl⟩
  simp only [List.toArray, Array.size_append, size_zeroCells, hz]
  simp
  omega
set_option maxHeartbeats 1000000 in
theorem grow_any (n : Nat) (w : World) (hn : n ≤ 200000) : Calls Tryd.prog 76 #[.slice none 0 0, .int .i64 n] w (ResM 55 w []) := by
  by_cases h0 : n = 0
  · subst h0
    go_enter Tryd.func76, Tryd.ntmps76
    go_wp2
    go_ret
    exact ⟨none, 0, rfl, ownM_nil _ _ _, Below.refl _ _⟩
  · have hp : 0 < n := by omega
    obtain ⟨i0, hi, hz0, hz1, hz2⟩ := info_parts Tryd.infoM55
    have hrun := fun ty => Lib.run_append_grow_zeros (P := Tryd.prog) w 51 3 ty 55 i0 _ .i64 .i64 Tryd.underlying51 Tryd.underlying3 hi hz0 none 0 0 [] (by rw [hz1]; exact run_firstCells_none w.drew 3 0 0 0) n hp (by rw [hz1]; decide) (by omega) (by omega)
      (by rw [hz2]; omega) (by rw [hz2]; exact growslice_fits (by omega) (by omega))
    simp only [Nat.zero_add] at hrun
    have hown := grown_own w n hn (.agg #[.string ⟨#[]⟩, .int .i64 0, .slice none 0 0]) rfl
    have hb : Below w.heap.size w (w.drew.alloc (.cells (([] : List Value).toArray ++ Builtin.zeroCells (Value.agg #[.string ⟨#[]⟩, .int .i64 0, .slice none 0 0]).cells n ++ Builtin.zeroCells (Value.agg #[.string ⟨#[]⟩, .int .i64 0, .slice none 0 0]).cells (grownCap w n 0 55 - n)) 55)) := (Below.refl _ _).drew.alloc (Nat.le_refl _) _
    have hG := grownCap_ge w n 0 55
    generalize w.drew.alloc (.cells (([] : List Value).toArray ++ Builtin.zeroCells (Value.agg #[.string ⟨#[]⟩, .int .i64 0, .slice none 0 0]).cells n ++ Builtin.zeroCells (Value.agg #[.string ⟨#[]⟩, .int .i64 0, .slice none 0 0]).cells (grownCap w n 0 55 - n)) 55) = W at hrun hown hb
    generalize grownCap w n 0 55 = G at hrun hown hG
    have hcap := hown.cap
    obtain ⟨_, hG2⟩ := hcap
    clear h0 hi hz0 hz1 hz2
    go_enter Tryd.func76, Tryd.ntmps76
    go_wp2_with (at_builtin; refine Lib.wpList_append_run _ rfl _ _ _ _ rfl _ _ rfl rfl _ _ (hrun _) ?_)
    all_goals (go_ret; exact ⟨_, _, rfl, hown, hb⟩)
/-- A list of slices: where each lies, its capacity, what it reads as. -/
abbrev Pc := Option Addr × Nat × List Ml
def cat (ps : List Pc) : List Ml := ps.flatMap fun p => p.2.2
def Pcs (w : World) (b : Nat) (ps : List Pc) : Prop := ∀ i p, ps[i]? = some p → w.cell? ⟨b, i, none⟩ = some (.slice p.1 p.2.2.length p.2.1) ∧ RdM w p.1 p.2.2
theorem Pcs.below {w w' : World} {b : Nat} {ps : List Pc} (h : Pcs w b ps) (hb : Below w.heap.size w w') : Pcs w' b ps := fun i p hi => ⟨cell_below hb (h i p hi).1, (h i p hi).2.below hb⟩
theorem cat_step {ps : List Pc} {k : Nat} {p : Pc} (h : ps[k]? = some p) : cat (ps.take (k + 1)) = cat (ps.take k) ++ p.2.2 := by
  rw [List.take_add_one, h]; simp [cat]
theorem cat_le (ps : List Pc) (k : Nat) : (cat (ps.take k)).length ≤ (cat ps).length := by
  have : (cat (ps.take k ++ ps.drop k)).length = (cat (ps.take k)).length + (cat (ps.drop k)).length := by unfold cat; rw [List.flatMap_append, List.length_append]
  rw [List.take_append_drop] at this
  omega
theorem cat_all {ps : List Pc} {k : Nat} (h : ps.length ≤ k) : cat (ps.take k) = cat ps := by rw [List.take_of_length_le h]

set_option maxRecDepth 100000 in
set_option maxHeartbeats 2000000 in
theorem concat_any (b c : Nat) (ps : List Pc) (w : World) (hp : Pcs w b ps) (hn : ps.length ≤ 100) (hc : (cat ps).length ≤ 100000) :
    Calls Tryd.prog 60 #[.slice (some ⟨b, 0, none⟩) ps.length c] w (ResM 55 w (cat ps)) := by
  go_enter Tryd.func60, Tryd.ntmps60
  go_wp2
  go_loop [3, 11] (fun s i => ∃ k m : Nat, k ≤ ps.length ∧ i = .int .i64 k ∧ s = .int .i64 m ∧ m = (cat (ps.take k)).length) (fun _ i => ps.length - (intOf i).toNat)
  case atStart => exact ⟨0, 0, Nat.zero_le _, rfl, rfl, rfl⟩
  case round =>
    obtain ⟨k, m, hk, rfl, rfl, hm⟩ := hrel
    have hm1 : m ≤ 100000 := by have := cat_le ps k; omega
    have HM := Lib.hid hm
    clear hm
    by_cases hlt : k < ps.length
    · obtain ⟨p, hpk⟩ : ∃ p, ps[k]? = some p := ⟨_, List.getElem?_eq_getElem hlt⟩
      have c1 := (hp k p hpk).1
      have hst := cat_step hpk
      have hle : m + p.2.2.length ≤ 100000 := by
        have := cat_le ps (k + 1)
        rw [hst, List.length_append, ← HM.out] at this
        omega
      have HST := Lib.hid hst
      clear hst hpk
      have HP := Lib.hid hp
      clear hp
      go_wp2
      go_round
      case rel => exact ⟨k + 1, m + p.2.2.length, by omega, by go_num, by go_num, by rw [HST.out, List.length_append, HM.out]⟩
      case measure => simp [intOf]; omega
    · have hall := HM.out
      rw [cat_all (by omega)] at hall
      have HA := Lib.hid hall
      have HP := Lib.hid hp
      clear hall hp
      go_wp2_with fail
      refine (grow_any m _ (by omega)).mono ?_
      rintro e w1 ⟨A0, c0, rfl, hown0, hb0⟩
      go_wp2_with fail
      go_loopw [6, 27] (fun v i wr => ∃ (k : Nat) (A : Option Addr) (c : Nat) (xs : List Ml), k ≤ ps.length ∧ i = .int .i64 k ∧ v = .slice A xs.length c ∧ xs = cat (ps.take k) ∧ OwnM 55 wr w.heap.size A c xs ∧ Below w.heap.size w wr) (fun _ i _ => ps.length - (intOf i).toNat)
      case atStart => exact ⟨0, A0, c0, [], Nat.zero_le _, rfl, rfl, rfl, hown0, hb0⟩
      case round =>
        obtain ⟨k, A, c, xs, hk, rfl, rfl, hx, hown, hb⟩ := hrel
        have hxl : xs.length ≤ 100000 := by have := cat_le ps k; rw [hx]; omega
        have HX := Lib.hid hx
        clear hx
        by_cases hlt : k < ps.length
        · obtain ⟨p, hpk⟩ : ∃ p, ps[k]? = some p := ⟨_, List.getElem?_eq_getElem hlt⟩
          have c1 := cell_below hb (HP.out k p hpk).1
          have hr := (HP.out k p hpk).2.later hb (fun g hg => hown.ge g hg)
          have hst := cat_step hpk
          have hle : xs.length + p.2.2.length ≤ 100000 := by
            have := cat_le ps (k + 1)
            rw [hst, List.length_append, ← HX.out] at this
            omega
          have HST := Lib.hid hst
          clear hst hpk
          go_wp2_with (at_builtin; refine wpList_append_m 51 55 Tryd.underlying51 Tryd.infoM55 _ rfl _ _ rfl w.heap.size A c xs rfl hown p.1 _ p.2.1 p.2.2 rfl rfl hr (by omega) hb.size _ rfl ?_; intro A1 c1 w2 hown2 hb2)
          go_roundw
          case rel => exact ⟨k + 1, A1, c1, xs ++ p.2.2, by omega, by go_num, by rw [List.length_append], by rw [HST.out, HX.out], hown2, hb.trans hb2⟩
          case measure => simp [intOf]; omega
        · go_wp2
          go_ret
          have e := HX.out
          rw [cat_all (by omega)] at e
          subst e
          exact ⟨A, c, rfl, hown, hb⟩

theorem three_read {w : World} {b : Nat} {A1 A2 A3 : Option Addr} {c1 c2 c3 : Nat} {f1 f2 f3 : List Ml} (h1 : w.cell? ⟨b, 0, none⟩ = some (.slice A1 f1.length c1)) (h2 : w.cell? ⟨b, 1, none⟩ = some (.slice A2 f2.length c2)) (h3 : w.cell? ⟨b, 2, none⟩ = some (.slice A3 f3.length c3))
    (r1 : RdM w A1 f1) (r2 : RdM w A2 f2) (r3 : RdM w A3 f3) : Pcs w b [(A1, c1, f1), (A2, c2, f2), (A3, c3, f3)] := fun i p hi => by
  match i, hi with
  | 0, hi => simp at hi; subst hi; exact ⟨h1, r1⟩
  | 1, hi => simp at hi; subst hi; exact ⟨h2, r2⟩
  | 2, hi => simp at hi; subst hi; exact ⟨h3, r3⟩
  | i + 3, hi => simp at hi
theorem two_read {w : World} {b : Nat} {A1 A2 : Option Addr} {c1 c2 : Nat} {f1 f2 : List Ml} (h1 : w.cell? ⟨b, 0, none⟩ = some (.slice A1 f1.length c1)) (h2 : w.cell? ⟨b, 1, none⟩ = some (.slice A2 f2.length c2))
    (r1 : RdM w A1 f1) (r2 : RdM w A2 f2) : Pcs w b [(A1, c1, f1), (A2, c2, f2)] := fun i p hi => by
  match i, hi with
  | 0, hi => simp at hi; subst hi; exact ⟨h1, r1⟩
  | 1, hi => simp at hi; subst hi; exact ⟨h2, r2⟩
  | i + 2, hi => simp at hi
theorem cat3 (A1 A2 A3 : Option Addr) (c1 c2 c3 : Nat) (f1 f2 f3 : List Ml) : cat [(A1, c1, f1), (A2, c2, f2), (A3, c3, f3)] = f1 ++ (f2 ++ f3) := by simp [cat]
theorem cat2 (A1 A2 : Option Addr) (c1 c2 : Nat) (f1 f2 : List Ml) : cat [(A1, c1, f1), (A2, c2, f2)] = f1 ++ f2 := by simp [cat]


theorem Rd.grown_some {w w' : World} {g : Nat} {B : Option Addr} {l : List Tok} (h : Rd w B l) (hg : w.grownBy w' (some g)) (hf : 0 < l.length → Far (some g) B) : Rd w' B l := h.grown hg hf
theorem OwnM.store {t : TypeId} {w : World} {base g c : Nat} {ms : List Ml} (h : OwnM t w base (some ⟨g, 0, none⟩) c ms) {i : Nat} {m : Ml} {B : Option Addr} {d : Nat} (hi : ms[i]? = some m) (hr : Rd w B m.2.2) (hf : 0 < m.2.2.length → Far (some g) B) :
    OwnM t (w.setCell ⟨g, i * 3 + 2, none⟩ (.slice B m.2.2.length d)) base (some ⟨g, 0, none⟩) c ms := by
  obtain ⟨cs, hown, hh⟩ := h
  obtain ⟨h1, h2⟩ := hown.stored (i * 3 + 2) (.slice B m.2.2.length d)
  exact ⟨_, h1, (hh.put B d hi hr hf).map fun B l r f => ⟨r.grown h2 f, f⟩⟩
theorem OwnM.frozen {t : TypeId} {w : World} {base g c : Nat} {ms : List Ml} (h : OwnM t w base (some ⟨g, 0, none⟩) c ms) (j : Nat) : w.frozen? ⟨g, j, none⟩ = false := by
  obtain ⟨cs, hown, _⟩ := h
  exact hown.frozenAt j
theorem OwnM.addr {t : TypeId} {w : World} {base c : Nat} {A : Option Addr} {ms : List Ml} (h : OwnM t w base A c ms) (h0 : 0 < ms.length) : ∃ g, A = some ⟨g, 0, none⟩ ∧ base ≤ g ∧ g < w.heap.size := by
  obtain ⟨cs, hown, _⟩ := h
  obtain ⟨g, cap, hv, h1, h2⟩ := World.ownsRow.form hown h0
  simp only [Value.slice.injEq] at hv
  exact ⟨g, hv.1, h1, h2⟩
set_option maxRecDepth 100000 in
set_option maxHeartbeats 4000000 in
theorem join_any (b c : Nat) (ps : List Pc) (w : World) (hp : Pcs w b ps) (hn : ps.length ≤ 100) (hc : (cat ps).length ≤ 100000) (hz : Hid (∀ m ∈ cat ps, m.2.2.length ≤ 200000)) :
    Calls Tryd.prog 47 #[.slice (some ⟨b, 0, none⟩) ps.length c] w (ResM 55 w (cat ps)) := by
  have C := Lib.hid (concat_any b c ps w hp hn hc)
  generalize cat ps = ms at *
  clear hp
  go_enter Tryd.func47, Tryd.ntmps47
  go_wp2_with fail
  refine C.out.mono ?_
  rintro e w1 ⟨A, d, rfl, ho, hb⟩
  have HO := Lib.hid ho
  have HB := Lib.hid hb
  clear ho hb C
  go_wp2_with fail
  go_loopw [9] (fun i wr => ∃ k : Nat, i = .int .i64 k ∧ k ≤ ms.length ∧ Hid (OwnM 55 wr w.heap.size A d ms) ∧ Hid (Below w.heap.size w wr)) (fun i _ => ms.length - (intOf i).toNat)
  case atStart => exact ⟨0, rfl, Nat.zero_le _, HO, HB⟩
  case round =>
    clear HO HB
    obtain ⟨k, rfl, hk, HO, HB⟩ := hrel
    by_cases hlt : k < ms.length
    · obtain ⟨g, rfl, hg1, hg2⟩ := HO.out.addr (by omega)
      obtain ⟨b2, o2, e2, hcell⟩ := HO.out.rd.cells (by omega)
      cases e2
      obtain ⟨m, hm⟩ : ∃ m, ms[k]? = some m := ⟨_, List.getElem?_eq_getElem hlt⟩
      obtain ⟨B, dd, c1, c2, c3, hrd⟩ := hcell k m hm
      rw [Nat.zero_add] at c1 c2 c3
      have hml := hz.out m (List.mem_of_getElem? hm)
      have CF := Lib.hid (fresh_any B _ dd m.2.2 wr hrd rfl hml)
      have i1 : (k : Int) < (ms.length : Int) := by omega
      have HM := Lib.hid hm
      clear hcell hm hrd c1 c2
      go_wp2_with fail
      refine CF.out.mono ?_
      rintro e w2 ⟨B2, d2, rfl, ho2, hb2⟩
      have HO2 := HO.out.below hb2
      have fz := HO2.frozen (k * 3 + 2)
      have hfar := own_far ho2 (g := some g) (fun q e => by cases e; exact hg2)
      have HO3 := Lib.hid (HO2.store (d := d2) HM.out ho2.rd hfar)
      have HB3 := Lib.hid ((bch HB.out hb2).setCell hg1 (p := ⟨g, k * 3 + 2, none⟩) (.slice B2 m.2.2.length d2))
      have c4 := cell_below hb2 c3
      clear HO2 hfar ho2 hb2 CF c3 HO HB
      go_wp2_with fail
      go_roundw
      case rel => exact ⟨k + 1, by go_num, by omega, HO3, HB3⟩
      case measure => simp [intOf]; omega
    · have i1 : ¬ (k : Int) < (ms.length : Int) := by omega
      go_wp2
      go_ret
      exact ⟨A, d, rfl, HO.out, HB.out⟩
end Go.Proofs.YtjneeikkakekjaaDoor
