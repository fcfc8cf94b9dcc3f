/-
  Contracts of the document's answer's Name, of the law's same, and of Words; two files compared.
-/
import Derived.Test.YtmggpockikcjjaaGreatDoorX
namespace Go.Proofs.YtmggpockikcjjaaGreatDoor
open Go.RowKit

set_option maxHeartbeats 1000000 in
theorem rname_any (s : List UInt8) (w : World) (hs : s.length ≤ 9223372036854775807) :
    Calls Tryz.prog 45 #[.string ⟨s.toArray⟩] w fun e w' => e = .returned (.bool (nmOk s)) ∧ w = w' := by
  go_enter Tryz.func45, Tryz.ntmps45
  go_wp2
  go_loop [3] (fun i => ∃ k : Nat, k ≤ s.length ∧ i = .int .i64 k ∧ ∀ d ∈ s.take k, nmB d = true) (fun i => s.length - (intOf i).toNat)
  case atStart => exact ⟨0, Nat.zero_le _, rfl, by simp⟩
  case round =>
    obtain ⟨k, hk, rfl, hall⟩ := hrel
    have Hall := Lib.hid hall
    clear hall
    by_cases hlt : k < s.length
    · have hlt' : k < (ByteArray.mk s.toArray).size := hlt
      obtain ⟨c, hc⟩ : ∃ c, c = (ByteArray.mk s.toArray)[k] := ⟨_, rfl⟩
      have hget : s[k]? = some c := by rw [hc]; exact List.getElem?_eq_getElem hlt
      have Hg := Lib.hid hget
      have hx : ((ByteArray.mk s.toArray)[k].toNat : Int) = (c.toNat : Int) := by rw [hc]
      clear hget hc
      obtain ⟨x, hxx⟩ : ∃ x : Int, x = (c.toNat : Int) := ⟨_, rfl⟩
      rw [← hxx] at hx
      have HX := Lib.hid hxx
      clear hxx
      rcases nm_ways x with h | h | h | h | h | h | h | h
      all_goals
        try subst h
        try (have d1 : decide (x ≤ 122) = false := decide_eq_false (by omega))
        try (have d2 : decide (x ≤ 57) = false := decide_eq_false (by omega))
        try (have d3 : (x == 45) = false := by rw [beq_eq_false_iff_ne]; omega)
        try (have d4 : (x == 46) = false := by rw [beq_eq_false_iff_ne]; omega)
        go_wp2
        first
        | (go_round
           case rel => exact ⟨k + 1, by omega, by go_num, step_all Hg.out (by rw [nmB_int, ← HX.out]; first | rfl | exact decide_eq_true (by omega)) Hall.out⟩
           case measure => simp [intOf]; omega)
        | (go_ret
           exact ⟨ret_bool (nmOk_stop Hg.out (by rw [nmB_int, ← HX.out]; first | rfl | exact decide_eq_false (by omega))).symm, rfl⟩)
    · by_cases h1 : 1 ≤ s.length
      · go_wp2
        go_ret
        refine ⟨ret_bool ?_, rfl⟩
        rw [nmOk_all fun d hd => Hall.out d (by rw [List.take_of_length_le (by omega)]; exact hd), Bool.eq_iff_iff]
        simp; omega
      · go_wp2
        go_ret
        refine ⟨ret_bool ?_, rfl⟩
        rw [nmOk_all fun d hd => Hall.out d (by rw [List.take_of_length_le (by omega)]; exact hd), Bool.eq_iff_iff]
        simp; omega

theorem fl_eqIn (f g : Fl) (w : World) :
    (Op.equalIn 10000 37 (.agg #[.string ⟨f.1.toArray⟩, .string ⟨f.2.toArray⟩]) (.agg #[.string ⟨g.1.toArray⟩, .string ⟨g.2.toArray⟩])).run Tryz.prog w = .ok (decide (f = g)) w := by
  have u9 := Tryz.underlying9
  have a9 := Tryz.isAgg9
  have z9 := Tryz.sizeOf9
  have hS : Tryz.prog.underlying 37 = some (.struct (Tryz.prog.fieldsOf 37)) := by kernel_rfl
  have hp : Tryz.prog.stoodInHeld 37 = false := by kernel_rfl
  rw [show (10000 : Nat) = 9999 + 1 from rfl, run_equalIn_agg w 9999 37 _ _ hS hp]
  simp only [Program.fieldsOf, Tryz.underlying37]
  go_simp
  obtain ⟨f1, f2⟩ := f
  obtain ⟨g1, g2⟩ := g
  by_cases h1 : f1 = g1 <;> by_cases h2 : f2 = g2 <;> simp [h1, h2]
theorem fl_neq_yes {f g : Fl} (h : f ≠ g) (w : World) :
    (binOp .neq 37 (.agg #[.string ⟨f.1.toArray⟩, .string ⟨f.2.toArray⟩]) (.agg #[.string ⟨g.1.toArray⟩, .string ⟨g.2.toArray⟩])).run Tryz.prog w = .ok (.bool true) w := by
  rw [run_neq_struct, fl_eqIn, decide_eq_false h]; rfl
theorem fl_neq_no {f g : Fl} (h : f = g) (w : World) :
    (binOp .neq 37 (.agg #[.string ⟨f.1.toArray⟩, .string ⟨f.2.toArray⟩]) (.agg #[.string ⟨g.1.toArray⟩, .string ⟨g.2.toArray⟩])).run Tryz.prog w = .ok (.bool false) w := by
  rw [run_neq_struct, fl_eqIn, decide_eq_true h]; rfl
theorem fl_eql_yes {f g : Fl} (h : f = g) (w : World) :
    (binOp .eql 37 (.agg #[.string ⟨f.1.toArray⟩, .string ⟨f.2.toArray⟩]) (.agg #[.string ⟨g.1.toArray⟩, .string ⟨g.2.toArray⟩])).run Tryz.prog w = .ok (.bool true) w := by
  rw [run_eql_struct, fl_eqIn, decide_eq_true h]; rfl
theorem fl_eql_no {f g : Fl} (h : f ≠ g) (w : World) :
    (binOp .eql 37 (.agg #[.string ⟨f.1.toArray⟩, .string ⟨f.2.toArray⟩]) (.agg #[.string ⟨g.1.toArray⟩, .string ⟨g.2.toArray⟩])).run Tryz.prog w = .ok (.bool false) w := by
  rw [run_eql_struct, fl_eqIn, decide_eq_false h]; rfl

theorem eq_stop {α : Type} [DecidableEq α] {fs gs : List α} {k : Nat} {f g : α} (hf : fs[k]? = some f) (hg : gs[k]? = some g) (hne : f ≠ g) : false = decide (fs = gs) :=
  (decide_eq_false fun e => by rw [e, hg] at hf; exact hne (Option.some.inj hf).symm).symm
theorem eq_step {α : Type} {fs gs : List α} {k : Nat} {f g : α} (hf : fs[k]? = some f) (hg : gs[k]? = some g) (he : f = g) (h : fs.take k = gs.take k) : fs.take (k + 1) = gs.take (k + 1) := by
  rw [List.take_add_one, List.take_add_one, hf, hg, he, h]
theorem eq_end {α : Type} [DecidableEq α] {fs gs : List α} {k : Nat} (h1 : fs.length ≤ k) (h2 : gs.length ≤ k) (h : fs.take k = gs.take k) : true = decide (fs = gs) := by
  rw [List.take_of_length_le h1, List.take_of_length_le h2] at h
  exact (decide_eq_true h).symm
theorem eq_len {α : Type} [DecidableEq α] {fs gs : List α} (h : fs.length ≠ gs.length) : false = decide (fs = gs) := (decide_eq_false fun e => h (by rw [e])).symm

set_option maxHeartbeats 400000 in
theorem equal_any (A B : Option Addr) (c d : Nat) (fs gs : List Fl) (w : World) (hr : Rd w A fs) (hq : Rd w B gs) (hc : fs.length ≤ 100000) (hd : gs.length ≤ 100000) :
    Calls Tryz.prog 15 #[.slice A fs.length c, .slice B gs.length d] w fun e w' => e = .returned (.bool (decide (fs = gs))) ∧ ∃ n, w' = w.drewN n := by
  by_cases hl : fs.length = gs.length
  · have q : ((fs.length : Int) != (gs.length : Int)) = false := by simp [hl]
    have HL := Lib.hid hl
    clear hl
    go_enter Tryz.func15, Tryz.ntmps15
    go_wp2
    go_loopw [5] (fun i wr => ∃ k m : Nat, k ≤ fs.length ∧ i = .int .i64 k ∧ fs.take k = gs.take k ∧ wr = w.drewN m) (fun i _ => fs.length - (intOf i).toNat)
    case atStart => exact ⟨0, 0, Nat.zero_le _, rfl, by simp, rfl⟩
    case round =>
      obtain ⟨k, m, hk, rfl, hall, rfl⟩ := hrel
      have Hall := Lib.hid hall
      clear hall
      by_cases hlt : k < fs.length
      · have hlt2 : k < gs.length := by rw [← HL.out]; exact hlt
        obtain ⟨b, o, rfl, hcell⟩ := hr (by omega)
        obtain ⟨b2, o2, rfl, hcell2⟩ := hq (by omega)
        obtain ⟨f, hf⟩ : ∃ f, fs[k]? = some f := ⟨_, List.getElem?_eq_getElem hlt⟩
        obtain ⟨g, hg⟩ : ∃ g, gs[k]? = some g := ⟨_, List.getElem?_eq_getElem hlt2⟩
        obtain ⟨c1, c2⟩ := hcell k f hf
        obtain ⟨e1, e2⟩ := hcell2 k g hg
        have HF := Lib.hid hf
        have HG := Lib.hid hg
        clear hf hcell hr hg hcell2 hq
        have i1 : (k : Int) < (fs.length : Int) := by omega
        have i2 : (k : Int) < (gs.length : Int) := by omega
        by_cases hfg : f = g
        · have hrun := fl_neq_no hfg
          have HE := Lib.hid hfg
          clear hfg
          go_wp2_with fail
          go_quiet (fail)
          go_wp2
          go_roundw
          case rel => exact ⟨k + 1, _, by omega, by go_num, eq_step HF.out HG.out HE.out Hall.out, rfl⟩
          case measure => simp [intOf]; omega
        · have hrun := fl_neq_yes hfg
          have HE := Lib.hid hfg
          clear hfg
          go_wp2_with fail
          go_quiet (fail)
          go_wp2
          go_ret
          exact ⟨ret_bool (eq_stop HF.out HG.out HE.out), _, World.drewN_drewN _ _ _⟩
      · go_wp2
        go_ret
        exact ⟨ret_bool (eq_end (by omega) (by rw [← HL.out]; omega) Hall.out), _, rfl⟩
  · have q : ((fs.length : Int) != (gs.length : Int)) = true := by simp; omega
    have HL := Lib.hid hl
    clear hl
    go_enter Tryz.func15, Tryz.ntmps15
    go_wp2
    go_ret
    exact ⟨ret_bool (eq_len HL.out), 0, rfl⟩
/-- A slice that reads as these texts. -/
def RdS (w : World) (A : Option Addr) (xs : List (List UInt8)) : Prop :=
  0 < xs.length → ∃ b o, A = some ⟨b, o, none⟩ ∧ ∀ i x, xs[i]? = some x → w.cell? ⟨b, o + i, none⟩ = some (.string ⟨x.toArray⟩)
theorem RdS.below {w w' : World} {A : Option Addr} {xs : List (List UInt8)} (h : RdS w A xs) (hb : Below w.heap.size w w') : RdS w' A xs := fun h0 => by
  obtain ⟨b, o, e, hc⟩ := h h0
  exact ⟨b, o, e, fun i f hi => cell_below hb (hc i f hi)⟩
def scells (xs : List (List UInt8)) : List Value := xs.map fun x => .string ⟨x.toArray⟩
def OwnS (w : World) (base : Nat) (A : Option Addr) (c : Nat) (xs : List (List UInt8)) : Prop := w.ownsRow base 9 1 (.slice A xs.length c) xs.length (scells xs)
theorem OwnS.rd {w : World} {base : Nat} {A : Option Addr} {c : Nat} {xs : List (List UInt8)} (h : OwnS w base A c xs) : RdS w A xs := fun h0 => by
  obtain ⟨g, cap, hv, _, _⟩ := World.ownsRow.form h h0
  simp only [Value.slice.injEq] at hv
  obtain ⟨rfl, _, _⟩ := hv
  refine ⟨g, 0, rfl, fun i f hi => ?_⟩
  have hlt : i < xs.length := by
    rcases Nat.lt_or_ge i xs.length with q | q
    · exact q
    · rw [List.getElem?_eq_none q] at hi; cases hi
  have c1 := World.ownsRow.cellAt h i (by omega)
  rw [Nat.zero_add]
  refine c1.trans ?_
  simp [scells, hi]

end Go.Proofs.YtmggpockikcjjaaGreatDoor
