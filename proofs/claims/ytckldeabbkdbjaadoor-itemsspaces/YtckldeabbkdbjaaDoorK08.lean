/-
  Appends onto rows of items, of the document's items, of notes.
  The same items; the law's Cut of items, and what it hands the document.
  The document's answer for layer 9: are items right?
  The document's answer for layer 9: Show.
-/
import Derived.Test.YtckldeabbkdbjaaDoorK07
import Derived.Deep.RegionLaw
namespace Go.Proofs.YtckldeabbkdbjaaDoor
open Go.RowKit

theorem Tryd.info49 : (Tryd.prog.info? 49).map (fun i => (i.zero, i.size, i.bytes)) = some (some (.agg #[.int .i64 0, .string ⟨#[]⟩]), 2, 24) := by kernel_rfl
theorem run_append_rdi (w : World) (base : Nat) (ty : TypeId) (v : Value) (xs : List Tok) (hown : w.ownsRow base 49 2 v xs.length (fcells xs)) (A : Option Addr) (c : Nat) (gs : List Tok) (hr : Rd w A gs)
    (hlen : xs.length + gs.length ≤ 200000) (hbase : base ≤ w.heap.size) :
    ∃ A' c' w', (Builtin.append_ #[23, 23] ty #[v, .slice A gs.length c]).run Tryd.prog w = .ok (.slice A' (xs ++ gs).length c') w' ∧ Own 49 w' base A' c' (xs ++ gs) ∧ Below base w w' := by
  obtain ⟨i0, hi, hz0, hz1, hz2⟩ := info_parts Tryd.info49
  have main : ∀ (ad : Addr), (∀ j u, (fcells gs)[j]? = some u → w.cell? (ad.add j) = some u) →
      ∃ A' c' w', (Builtin.append_ #[23, 23] ty #[v, .slice (some ad) gs.length c]).run Tryd.prog w = .ok (.slice A' (xs ++ gs).length c') w' ∧ Own 49 w' base A' c' (xs ++ gs) ∧ Below base w w' := fun ad hn => by
    obtain ⟨v', w', h1, h2, h3, _⟩ := run_append_own (P := Tryd.prog) w base 23 ty 49 i0 _ 2 24 Tryd.underlying23 hi hz0 hz1 hz2 rfl (by decide) v xs.length (fcells xs) hown ad gs.length c (fcells gs) (fcells_len gs) hn (fcells_one gs)
      (by unfold maxLen; omega) (by omega) hbase
    rw [← fcells_app] at h2
    obtain ⟨A', c', rfl⟩ := own_shape h2
    rw [← List.length_append] at h2 h1
    exact ⟨A', c', w', h1, h2, below_grown hown h3 hbase⟩
  cases A with
  | none =>
    have hg : gs = [] := by
      rcases Nat.eq_zero_or_pos gs.length with h | h
      · exact List.length_eq_zero_iff.1 h
      · obtain ⟨b, o, e, _⟩ := hr h; cases e
    subst hg
    obtain ⟨A', c', rfl⟩ := own_shape hown
    refine ⟨A', c', w, ?_, ?_, Below.refl _ _⟩
    · rw [List.append_nil]; exact run_append_none w base 23 ty 49 i0 2 c Tryd.underlying23 hi _ _ _ hown
    · rw [List.append_nil]; exact hown
  | some ad =>
    rcases Nat.eq_zero_or_pos gs.length with h | h
    · have hg := List.length_eq_zero_iff.1 h
      subst hg
      exact main ad fun j u hu => by simp [fcells] at hu
    · obtain ⟨b, o, e, hc⟩ := hr h
      cases e
      exact main _ (Rd.news hc)
theorem wpList_append_rdi {ops : Array Oper} {rest : List Oper} {o : Oper} {a : Act} {Q : Exit → Act → World → Prop} (w : World) (hgd : o.guard = none) (s x : Operand)
    (ho : o.op = .call { callee := .builtin .append, args := #[s, x], argTypes := #[23, 23] }) (base : Nat) (v : Value) (xs : List Tok) (hs : a.eval s = v) (hown : w.ownsRow base 49 2 v xs.length (fcells xs))
    (A : Option Addr) (c : Nat) (gs : List Tok) (hx : a.eval x = .slice A gs.length c) (hr : Rd w A gs) (hlen : xs.length + gs.length ≤ 200000) (hbase : base ≤ w.heap.size)
    (h : ∀ A' c' w', Own 49 w' base A' c' (xs ++ gs) → Below base w w' → wpList Tryd.prog ops Q rest (a.put o.dst (.slice A' (xs ++ gs).length c')) w') : wpList Tryd.prog ops Q (o :: rest) a w := by
  refine wpList_plain hgd fun K hK => ?_
  obtain ⟨A', c', w', hrun, h2, h3⟩ := run_append_rdi w base o.type v xs hown A c gs hr hlen hbase
  unfold Oper.wp
  simp only [execOp, ho, resolve, invoke, builtin, Sem.run_bind, Sem.run_pure, Result.andThen_ok, List.map_toArray, List.map_cons, List.map_nil, hs, hx, hrun]
  exact hK _ _ (h A' c' w' h2 h3)

/-- The same, the source's length as it is spelt. -/
theorem wpList_append_rdni {ops : Array Oper} {rest : List Oper} {o : Oper} {a : Act} {Q : Exit → Act → World → Prop} (w : World) (hgd : o.guard = none) (s x : Operand)
    (ho : o.op = .call { callee := .builtin .append, args := #[s, x], argTypes := #[23, 23] }) (base : Nat) (v : Value) (xs : List Tok) (hs : a.eval s = v) (hown : w.ownsRow base 49 2 v xs.length (fcells xs))
    (A : Option Addr) (m c : Nat) (gs : List Tok) (hm : m = gs.length) (hx : a.eval x = .slice A m c) (hr : Rd w A gs) (hlen : xs.length + gs.length ≤ 200000) (hbase : base ≤ w.heap.size) (r : List Tok) (hr0 : xs ++ gs = r)
    (h : ∀ A' c' w', Own 49 w' base A' c' r → Below base w w' → wpList Tryd.prog ops Q rest (a.put o.dst (.slice A' r.length c')) w') : wpList Tryd.prog ops Q (o :: rest) a w := by
  subst hm hr0
  exact wpList_append_rdi w hgd s x ho base v xs hs hown A c gs hx hr hlen hbase h


theorem Tryd.info66 : (Tryd.prog.info? 66).map (fun i => (i.zero, i.size, i.bytes)) = some (some (.agg #[.int .i64 0, .string ⟨#[]⟩]), 2, 24) := by kernel_rfl
theorem run_append_rdr (w : World) (base : Nat) (ty : TypeId) (v : Value) (xs : List Tok) (hown : w.ownsRow base 66 2 v xs.length (fcells xs)) (A : Option Addr) (c : Nat) (gs : List Tok) (hr : Rd w A gs)
    (hlen : xs.length + gs.length ≤ 200000) (hbase : base ≤ w.heap.size) :
    ∃ A' c' w', (Builtin.append_ #[29, 29] ty #[v, .slice A gs.length c]).run Tryd.prog w = .ok (.slice A' (xs ++ gs).length c') w' ∧ Own 66 w' base A' c' (xs ++ gs) ∧ Below base w w' := by
  obtain ⟨i0, hi, hz0, hz1, hz2⟩ := info_parts Tryd.info66
  have main : ∀ (ad : Addr), (∀ j u, (fcells gs)[j]? = some u → w.cell? (ad.add j) = some u) →
      ∃ A' c' w', (Builtin.append_ #[29, 29] ty #[v, .slice (some ad) gs.length c]).run Tryd.prog w = .ok (.slice A' (xs ++ gs).length c') w' ∧ Own 66 w' base A' c' (xs ++ gs) ∧ Below base w w' := fun ad hn => by
    obtain ⟨v', w', h1, h2, h3, _⟩ := run_append_own (P := Tryd.prog) w base 29 ty 66 i0 _ 2 24 Tryd.underlying29 hi hz0 hz1 hz2 rfl (by decide) v xs.length (fcells xs) hown ad gs.length c (fcells gs) (fcells_len gs) hn (fcells_one gs)
      (by unfold maxLen; omega) (by omega) hbase
    rw [← fcells_app] at h2
    obtain ⟨A', c', rfl⟩ := own_shape h2
    rw [← List.length_append] at h2 h1
    exact ⟨A', c', w', h1, h2, below_grown hown h3 hbase⟩
  cases A with
  | none =>
    have hg : gs = [] := by
      rcases Nat.eq_zero_or_pos gs.length with h | h
      · exact List.length_eq_zero_iff.1 h
      · obtain ⟨b, o, e, _⟩ := hr h; cases e
    subst hg
    obtain ⟨A', c', rfl⟩ := own_shape hown
    refine ⟨A', c', w, ?_, ?_, Below.refl _ _⟩
    · rw [List.append_nil]; exact run_append_none w base 29 ty 66 i0 2 c Tryd.underlying29 hi _ _ _ hown
    · rw [List.append_nil]; exact hown
  | some ad =>
    rcases Nat.eq_zero_or_pos gs.length with h | h
    · have hg := List.length_eq_zero_iff.1 h
      subst hg
      exact main ad fun j u hu => by simp [fcells] at hu
    · obtain ⟨b, o, e, hc⟩ := hr h
      cases e
      exact main _ (Rd.news hc)
theorem wpList_append_rdr {ops : Array Oper} {rest : List Oper} {o : Oper} {a : Act} {Q : Exit → Act → World → Prop} (w : World) (hgd : o.guard = none) (s x : Operand)
    (ho : o.op = .call { callee := .builtin .append, args := #[s, x], argTypes := #[29, 29] }) (base : Nat) (v : Value) (xs : List Tok) (hs : a.eval s = v) (hown : w.ownsRow base 66 2 v xs.length (fcells xs))
    (A : Option Addr) (c : Nat) (gs : List Tok) (hx : a.eval x = .slice A gs.length c) (hr : Rd w A gs) (hlen : xs.length + gs.length ≤ 200000) (hbase : base ≤ w.heap.size)
    (h : ∀ A' c' w', Own 66 w' base A' c' (xs ++ gs) → Below base w w' → wpList Tryd.prog ops Q rest (a.put o.dst (.slice A' (xs ++ gs).length c')) w') : wpList Tryd.prog ops Q (o :: rest) a w := by
  refine wpList_plain hgd fun K hK => ?_
  obtain ⟨A', c', w', hrun, h2, h3⟩ := run_append_rdr w base o.type v xs hown A c gs hr hlen hbase
  unfold Oper.wp
  simp only [execOp, ho, resolve, invoke, builtin, Sem.run_bind, Sem.run_pure, Result.andThen_ok, List.map_toArray, List.map_cons, List.map_nil, hs, hx, hrun]
  exact hK _ _ (h A' c' w' h2 h3)

/-- The same, the source's length as it is spelt. -/
theorem wpList_append_rdnr {ops : Array Oper} {rest : List Oper} {o : Oper} {a : Act} {Q : Exit → Act → World → Prop} (w : World) (hgd : o.guard = none) (s x : Operand)
    (ho : o.op = .call { callee := .builtin .append, args := #[s, x], argTypes := #[29, 29] }) (base : Nat) (v : Value) (xs : List Tok) (hs : a.eval s = v) (hown : w.ownsRow base 66 2 v xs.length (fcells xs))
    (A : Option Addr) (m c : Nat) (gs : List Tok) (hm : m = gs.length) (hx : a.eval x = .slice A m c) (hr : Rd w A gs) (hlen : xs.length + gs.length ≤ 200000) (hbase : base ≤ w.heap.size) (r : List Tok) (hr0 : xs ++ gs = r)
    (h : ∀ A' c' w', Own 66 w' base A' c' r → Below base w w' → wpList Tryd.prog ops Q rest (a.put o.dst (.slice A' r.length c')) w') : wpList Tryd.prog ops Q (o :: rest) a w := by
  subst hm hr0
  exact wpList_append_rdr w hgd s x ho base v xs hs hown A c gs hx hr hlen hbase h


theorem Tryd.info64 : (Tryd.prog.info? 64).map (fun i => (i.zero, i.size, i.bytes)) = some (some (.agg #[.int .i64 0, .string ⟨#[]⟩]), 2, 24) := by kernel_rfl
theorem run_append_rdn (w : World) (base : Nat) (ty : TypeId) (v : Value) (xs : List Tok) (hown : w.ownsRow base 64 2 v xs.length (fcells xs)) (A : Option Addr) (c : Nat) (gs : List Tok) (hr : Rd w A gs)
    (hlen : xs.length + gs.length ≤ 200000) (hbase : base ≤ w.heap.size) :
    ∃ A' c' w', (Builtin.append_ #[26, 26] ty #[v, .slice A gs.length c]).run Tryd.prog w = .ok (.slice A' (xs ++ gs).length c') w' ∧ Own 64 w' base A' c' (xs ++ gs) ∧ Below base w w' := by
  obtain ⟨i0, hi, hz0, hz1, hz2⟩ := info_parts Tryd.info64
  have main : ∀ (ad : Addr), (∀ j u, (fcells gs)[j]? = some u → w.cell? (ad.add j) = some u) →
      ∃ A' c' w', (Builtin.append_ #[26, 26] ty #[v, .slice (some ad) gs.length c]).run Tryd.prog w = .ok (.slice A' (xs ++ gs).length c') w' ∧ Own 64 w' base A' c' (xs ++ gs) ∧ Below base w w' := fun ad hn => by
    obtain ⟨v', w', h1, h2, h3, _⟩ := run_append_own (P := Tryd.prog) w base 26 ty 64 i0 _ 2 24 Tryd.underlying26 hi hz0 hz1 hz2 rfl (by decide) v xs.length (fcells xs) hown ad gs.length c (fcells gs) (fcells_len gs) hn (fcells_one gs)
      (by unfold maxLen; omega) (by omega) hbase
    rw [← fcells_app] at h2
    obtain ⟨A', c', rfl⟩ := own_shape h2
    rw [← List.length_append] at h2 h1
    exact ⟨A', c', w', h1, h2, below_grown hown h3 hbase⟩
  cases A with
  | none =>
    have hg : gs = [] := by
      rcases Nat.eq_zero_or_pos gs.length with h | h
      · exact List.length_eq_zero_iff.1 h
      · obtain ⟨b, o, e, _⟩ := hr h; cases e
    subst hg
    obtain ⟨A', c', rfl⟩ := own_shape hown
    refine ⟨A', c', w, ?_, ?_, Below.refl _ _⟩
    · rw [List.append_nil]; exact run_append_none w base 26 ty 64 i0 2 c Tryd.underlying26 hi _ _ _ hown
    · rw [List.append_nil]; exact hown
  | some ad =>
    rcases Nat.eq_zero_or_pos gs.length with h | h
    · have hg := List.length_eq_zero_iff.1 h
      subst hg
      exact main ad fun j u hu => by simp [fcells] at hu
    · obtain ⟨b, o, e, hc⟩ := hr h
      cases e
      exact main _ (Rd.news hc)
theorem wpList_append_rdn {ops : Array Oper} {rest : List Oper} {o : Oper} {a : Act} {Q : Exit → Act → World → Prop} (w : World) (hgd : o.guard = none) (s x : Operand)
    (ho : o.op = .call { callee := .builtin .append, args := #[s, x], argTypes := #[26, 26] }) (base : Nat) (v : Value) (xs : List Tok) (hs : a.eval s = v) (hown : w.ownsRow base 64 2 v xs.length (fcells xs))
    (A : Option Addr) (c : Nat) (gs : List Tok) (hx : a.eval x = .slice A gs.length c) (hr : Rd w A gs) (hlen : xs.length + gs.length ≤ 200000) (hbase : base ≤ w.heap.size)
    (h : ∀ A' c' w', Own 64 w' base A' c' (xs ++ gs) → Below base w w' → wpList Tryd.prog ops Q rest (a.put o.dst (.slice A' (xs ++ gs).length c')) w') : wpList Tryd.prog ops Q (o :: rest) a w := by
  refine wpList_plain hgd fun K hK => ?_
  obtain ⟨A', c', w', hrun, h2, h3⟩ := run_append_rdn w base o.type v xs hown A c gs hr hlen hbase
  unfold Oper.wp
  simp only [execOp, ho, resolve, invoke, builtin, Sem.run_bind, Sem.run_pure, Result.andThen_ok, List.map_toArray, List.map_cons, List.map_nil, hs, hx, hrun]
  exact hK _ _ (h A' c' w' h2 h3)

/-- The same, the source's length as it is spelt. -/
theorem wpList_append_rdnn {ops : Array Oper} {rest : List Oper} {o : Oper} {a : Act} {Q : Exit → Act → World → Prop} (w : World) (hgd : o.guard = none) (s x : Operand)
    (ho : o.op = .call { callee := .builtin .append, args := #[s, x], argTypes := #[26, 26] }) (base : Nat) (v : Value) (xs : List Tok) (hs : a.eval s = v) (hown : w.ownsRow base 64 2 v xs.length (fcells xs))
    (A : Option Addr) (m c : Nat) (gs : List Tok) (hm : m = gs.length) (hx : a.eval x = .slice A m c) (hr : Rd w A gs) (hlen : xs.length + gs.length ≤ 200000) (hbase : base ≤ w.heap.size) (r : List Tok) (hr0 : xs ++ gs = r)
    (h : ∀ A' c' w', Own 64 w' base A' c' r → Below base w w' → wpList Tryd.prog ops Q rest (a.put o.dst (.slice A' r.length c')) w') : wpList Tryd.prog ops Q (o :: rest) a w := by
  subst hm hr0
  exact wpList_append_rdn w hgd s x ho base v xs hs hown A c gs hx hr hlen hbase h


end Go.Proofs.YtckldeabbkdbjaaDoor

namespace Go.Proofs.YtckldeabbkdbjaaDoor
open Go.RowKit

theorem tk_eqInI (f g : Tok) (w : World) :
    (Op.equalIn 10000 66 (.agg #[.int .i64 f.1, .string ⟨f.2.toArray⟩]) (.agg #[.int .i64 g.1, .string ⟨g.2.toArray⟩])).run Tryd.prog w = .ok (decide (f = g)) w := by
  have u9 := Tryd.underlying9
  have a9 := Tryd.isAgg9
  have z9 := Tryd.sizeOf9
  have u3 := Tryd.underlying3
  have a3 := Tryd.isAgg3
  have z3 := Tryd.sizeOf3
  have hS : Tryd.prog.underlying 66 = some (.struct (Tryd.prog.fieldsOf 66)) := by kernel_rfl
  have hp : Tryd.prog.stoodInHeld 66 = false := by kernel_rfl
  rw [show (10000 : Nat) = 9999 + 1 from rfl, run_equalIn_agg w 9999 66 _ _ hS hp]
  simp only [Program.fieldsOf, Tryd.underlying66]
  go_simp
  obtain ⟨f1, f2⟩ := f
  obtain ⟨g1, g2⟩ := g
  by_cases h1 : f1 = g1 <;> by_cases h2 : f2 = g2 <;> simp [h1, h2]
theorem tk_neq_yesI {f g : Tok} (h : f ≠ g) (w : World) :
    (binOp .neq 66 (.agg #[.int .i64 f.1, .string ⟨f.2.toArray⟩]) (.agg #[.int .i64 g.1, .string ⟨g.2.toArray⟩])).run Tryd.prog w = .ok (.bool true) w := by
  rw [run_neq_struct, tk_eqInI, decide_eq_false h]; rfl
theorem tk_neq_noI {f g : Tok} (h : f = g) (w : World) :
    (binOp .neq 66 (.agg #[.int .i64 f.1, .string ⟨f.2.toArray⟩]) (.agg #[.int .i64 g.1, .string ⟨g.2.toArray⟩])).run Tryd.prog w = .ok (.bool false) w := by
  rw [run_neq_struct, tk_eqInI, decide_eq_true h]; rfl
theorem tk_eqlI (f g : Tok) (w : World) :
    (binOp .eql 66 (.agg #[.int .i64 f.1, .string ⟨f.2.toArray⟩]) (.agg #[.int .i64 g.1, .string ⟨g.2.toArray⟩])).run Tryd.prog w = .ok (.bool (decide (f = g))) w := by
  rw [run_eql_struct, tk_eqInI]; rfl
set_option maxHeartbeats 1000000 in
theorem ritems_any (A B : Option Addr) (c d : Nat) (fs gs : List Tok) (w : World) (hr : Rd w A fs) (hq : Rd w B gs) (hc : fs.length ≤ 200000) (hd : gs.length ≤ 200000) :
    Calls Tryd.prog 13 #[.slice A fs.length c, .slice B gs.length d] w fun e w' => e = .returned (.bool (decide (fs = gs))) ∧ ∃ n, w' = w.drewN n := by
  by_cases hl : fs.length = gs.length
  · have q : ((fs.length : Int) != (gs.length : Int)) = false := by simp [hl]
    have HL := Lib.hid hl
    clear hl
    go_enter Tryd.func13, Tryd.ntmps13
    go_wp2
    go_loopw [5] (fun i wr => ∃ k m : Nat, k ≤ fs.length ∧ i = .int .i64 k ∧ fs.take k = gs.take k ∧ wr = w.drewN m) (fun i _ => fs.length - (intOf i).toNat)
    case atStart => exact ⟨0, 0, Nat.zero_le _, rfl, by simp, rfl⟩
    case round =>
      obtain ⟨k, m, hk, rfl, hall, rfl⟩ := hrel
      have Hall := Lib.hid hall
      clear hall
      by_cases hlt : k < fs.length
      · have hlt2 : k < gs.length := by rw [← HL.out]; exact hlt
        obtain ⟨b, o, rfl, hcell⟩ := hr (by omega)
        obtain ⟨b2, o2, rfl, hcell2⟩ := hq (by omega)
        obtain ⟨f, hf⟩ : ∃ f, fs[k]? = some f := ⟨_, List.getElem?_eq_getElem hlt⟩
        obtain ⟨g, hg⟩ : ∃ g, gs[k]? = some g := ⟨_, List.getElem?_eq_getElem hlt2⟩
        obtain ⟨c1, c2⟩ := hcell k f hf
        obtain ⟨e1, e2⟩ := hcell2 k g hg
        have HF := Lib.hid hf
        have HG := Lib.hid hg
        clear hf hcell hr hg hcell2 hq
        have i1 : (k : Int) < (fs.length : Int) := by omega
        have i2 : (k : Int) < (gs.length : Int) := by omega
        by_cases hfg : f = g
        · have hrun := tk_neq_noI hfg
          have HE := Lib.hid hfg
          clear hfg
          go_wp2_with fail
          go_quiet (fail)
          go_wp2
          go_roundw
          case rel => exact ⟨k + 1, _, by omega, by go_num, eq_step HF.out HG.out HE.out Hall.out, rfl⟩
          case measure => simp [intOf]; omega
        · have hrun := tk_neq_yesI hfg
          have HE := Lib.hid hfg
          clear hfg
          go_wp2_with fail
          go_quiet (fail)
          go_wp2
          go_ret
          exact ⟨ret_bool (eq_stop HF.out HG.out HE.out), _, World.drewN_drewN _ _ _⟩
      · go_wp2
        go_ret
        exact ⟨ret_bool (eq_end (by omega) (by rw [← HL.out]; omega) Hall.out), _, rfl⟩
  · have q : ((fs.length : Int) != (gs.length : Int)) = true := by simp; omega
    have HL := Lib.hid hl
    clear hl
    go_enter Tryd.func13, Tryd.ntmps13
    go_wp2
    go_ret
    exact ⟨ret_bool (eq_len HL.out), 0, rfl⟩
def cut80 (t : Tok) : Tok := (t.1, t.2.take 80)
def cutI (most : Nat) (l : List Tok) : List Tok := (l.take most).map cut80
theorem cutI_step {most : Nat} {ts : List Tok} {k : Nat} {f : Tok} (h : ts[k]? = some f) : (ts.take (k + 1)).map cut80 = (ts.take k).map cut80 ++ [cut80 f] := by rw [at_take h]; simp
set_option maxRecDepth 100000 in
set_option maxHeartbeats 1000000 in
theorem icut_any (A : Option Addr) (c most : Nat) (ts : List Tok) (w : World) (hr : Rd w A ts) (hl : ts.length ≤ 9223372036854775807) (hfit : Hid (∀ t ∈ ts, t.2.length ≤ 9223372036854775807)) (hm : most ≤ 1000) :
    Calls Tryd.prog 9 #[.slice A ts.length c, .int .i64 most] w (Res 49 w (cutI most ts)) := by
  have ho0 := own_empty 49 w
  have hb0 := one_below w (.cells #[] 49)
  go_enter Tryd.func9, Tryd.ntmps9
  go_wp2_with fail
  go_loopw [5, 6] (fun v i wr => ∃ (k : Nat) (C : Option Addr) (cc : Nat) (xs : List Tok), k ≤ ts.length ∧ k ≤ most ∧ i = .int .i64 k ∧ v = .slice C xs.length cc ∧ Hid ((ts.take k).map cut80 = xs) ∧ xs.length ≤ k ∧ Own 49 wr w.heap.size C cc xs ∧ Below w.heap.size w wr) (fun _ i _ => ts.length - (intOf i).toNat)
  case atStart => exact ⟨0, _, 0, [], Nat.zero_le _, Nat.zero_le _, rfl, rfl, Lib.hid rfl, by simp, ho0, hb0⟩
  case round =>
    clear ho0 hb0
    obtain ⟨k, C, cc, xs, hk, hk2, rfl, rfl, HX, hxl, hown, hb⟩ := hrel
    by_cases hlt : k < ts.length
    · by_cases hlt2 : k < most
      · obtain ⟨b, o, rfl, hcell⟩ := (hr.below hb) (by omega)
        obtain ⟨f, hf⟩ : ∃ f, ts[k]? = some f := ⟨_, List.getElem?_eq_getElem hlt⟩
        obtain ⟨c1, c2⟩ := hcell k f hf
        have lz := hfit.out f (List.mem_of_getElem? hf)
        obtain ⟨κ, z⟩ := f
        simp only at c1 c2 lz
        obtain ⟨cz, y, HCY, hyl, hmin, hcut⟩ := cut_facts z 80 80 rfl
        obtain ⟨ys, hy⟩ : ∃ ys, xs ++ [(κ, y)] = ys := ⟨_, rfl⟩
        have HN := Lib.hid (show (ts.take (k + 1)).map cut80 = ys by rw [cutI_step (most := most) hf, HX.out, ← hy, ← HCY.out]; rfl)
        have HYL := Lib.hid (show ys.length = xs.length + 1 by rw [← hy]; simp)
        have HY := Lib.hid hy
        have i1 : (k : Int) < (ts.length : Int) := by omega
        have i2 : (k : Int) < (most : Int) := by omega
        have SB := two_below wr (.cells #[.int .i64 κ, .string ⟨y.toArray⟩] 49) (.cells #[.int .i64 κ, .string ⟨y.toArray⟩] 49)
        have HO2 := Lib.hid (hown.below SB)
        have HB2 := Lib.hid (bch hb SB)
        have hrd := one_read (f := (κ, y)) (new_fst (wr.alloc (.cells #[.int .i64 κ, .string ⟨y.toArray⟩] 49)) (.int .i64 κ) (.string ⟨y.toArray⟩) 49) (new_snd _ _ _ _)
        rw [show (wr.alloc (.cells #[.int .i64 κ, .string ⟨y.toArray⟩] 49)).heap.size = wr.heap.size + 1 by simp] at hrd
        have HRD := Lib.hid hrd
        clear hf hcell hy hown HX SB HCY hrd
        go_wp2_with (at_builtin; refine wpList_append_rdni _ rfl _ _ rfl w.heap.size _ xs rfl HO2.out (some ⟨wr.heap.size + 1, 0, none⟩) 1 1 [(κ, y)] rfl (by first | rfl | simp) HRD.out (by show xs.length + 1 ≤ _; omega) HB2.out.size ys HY.out ?_; intro N2 nc2 w3 hown2 hb3)
        have hb4 := HB2.out.trans hb3
        clear HO2 HB2 hb3
        go_roundw
        case rel => exact ⟨k + 1, N2, nc2, ys, by omega, by omega, by go_num, rfl, HN, by have := HYL.out; omega, hown2, hb4⟩
        case measure => simp [intOf]; omega
      · have HF := Lib.hid (show cutI most ts = xs by unfold cutI; rw [show most = k by omega]; exact HX.out)
        have i1 : (k : Int) < (ts.length : Int) := by omega
        have i2 : ¬ (k : Int) < (most : Int) := by omega
        have HO := Lib.hid hown
        clear HX hown
        go_wp2
        go_ret
        rw [HF.out]
        exact ⟨C, cc, rfl, HO.out, hb⟩
    · have HF := Lib.hid (show cutI most ts = xs by
        unfold cutI
        have := HX.out
        rw [List.take_of_length_le (by omega)] at this ⊢
        exact this)
      have HO := Lib.hid hown
      clear HX hown
      go_wp2
      go_ret
      rw [HF.out]
      exact ⟨C, cc, rfl, HO.out, hb⟩
theorem step_append_r {ops : Array Oper} {o : Oper} {a : Act} {K : Act → World → Prop} {Q : Exit → Act → World → Prop} {E : Prop} (w : World) (hgd : o.guard = none) (s x : Operand)
    (ho : o.op = .call { callee := .builtin .append, args := #[s, x], argTypes := #[29, 29] }) (base : Nat) (v : Value) (xs : List Tok) (hs : a.eval s = v) (hown : w.ownsRow base 66 2 v xs.length (fcells xs))
    (A : Option Addr) (m c : Nat) (gs : List Tok) (hm : m = gs.length) (hx : a.eval x = .slice A m c) (hr : Rd w A gs) (hlen : xs.length + gs.length ≤ 200000) (hbase : base ≤ w.heap.size) (r : List Tok) (hr0 : xs ++ gs = r)
    (h : ∀ A' c' w', Own 66 w' base A' c' r → Below base w w' → K (a.put o.dst (.slice A' r.length c')) w') : if Region.wanted o (yielded ops a.tmps) = true then Oper.wp Tryd.prog o a w K Q else E := by
  subst hm hr0
  have hw : Region.wanted o (yielded ops a.tmps) = true := by simp [Region.wanted, hgd]
  rw [if_pos hw]
  obtain ⟨A', c', w', hrun, h2, h3⟩ := run_append_rdr w base o.type v xs hown A c gs hr hlen hbase
  unfold Oper.wp
  simp only [execOp, ho, resolve, invoke, builtin, Sem.run_bind, Sem.run_pure, Result.andThen_ok, List.map_toArray, List.map_cons, List.map_nil, hs, hx, hrun]
  exact h A' c' w' h2 h3
theorem ibelow_drew (w : World) : Below w.heap.size w w.drew := ⟨rfl, rfl, rfl, Nat.le_refl _, fun _ _ => rfl⟩
set_option maxRecDepth 100000 in
set_option maxHeartbeats 2000000 in
theorem irefs_any (A : Option Addr) (c : Nat) (ts : List Tok) (w : World) (hr : Rd w A ts) (hl : ts.length ≤ 190000) :
    Calls Tryd.prog 14 #[.slice A ts.length c] w (Res 66 w ts) := by
  have ho0 := own_empty 66 w
  have hb0 := one_below w (.cells #[] 66)
  go_enter Tryd.func14, Tryd.ntmps14
  go_wp2_with fail
  go_loopw [3, 4] (fun v i wr => ∃ (k : Nat) (C : Option Addr) (cc : Nat) (xs : List Tok), k ≤ ts.length ∧ i = .int .i64 k ∧ v = .slice C xs.length cc ∧ Hid (ts.take k = xs) ∧ xs.length ≤ k ∧ Own 66 wr w.heap.size C cc xs ∧ Below w.heap.size w wr) (fun _ i _ => ts.length - (intOf i).toNat)
  case atStart => exact ⟨0, _, 0, [], Nat.zero_le _, rfl, rfl, Lib.hid rfl, by simp, ho0, hb0⟩
  case round =>
    clear ho0 hb0
    obtain ⟨k, C, cc, xs, hk, rfl, rfl, HX, hxl, hown, hb⟩ := hrel
    by_cases hlt : k < ts.length
    · obtain ⟨b, o, rfl, hcell⟩ := (hr.below hb) (by omega)
      obtain ⟨f, hf⟩ : ∃ f, ts[k]? = some f := ⟨_, List.getElem?_eq_getElem hlt⟩
      obtain ⟨c1, c2⟩ := hcell k f hf
      obtain ⟨κ, z⟩ := f
      simp only at c1 c2
      obtain ⟨ys, hy⟩ : ∃ ys, xs ++ [(κ, z)] = ys := ⟨_, rfl⟩
      have HN := Lib.hid (show ts.take (k + 1) = ys by rw [at_take hf, HX.out, hy])
      have HYL := Lib.hid (show ys.length = xs.length + 1 by rw [← hy]; simp)
      have HY := Lib.hid hy
      have SB := bch (one_below wr (.cells #[.int .i64 κ, .string ⟨z.toArray⟩] 66)) (ibelow_drew (wr.alloc (.cells #[.int .i64 κ, .string ⟨z.toArray⟩] 66)))
      have HO2 := Lib.hid (hown.below SB)
      have HB2 := Lib.hid (bch hb SB)
      have HRD := Lib.hid (show Rd (wr.alloc (.cells #[.int .i64 κ, .string ⟨z.toArray⟩] 66)).drew (some ⟨wr.heap.size, 0, none⟩) [(κ, z)] from Rd.below (one_read (new_fst _ _ _ _) (new_snd _ _ _ _)) (ibelow_drew _))
      have i1 : (k : Int) < (ts.length : Int) := by omega
      clear hf hcell hown hb HX hy SB
      go_wp2_with fail
      go_region_law (refine step_append_r (wr.alloc (.cells #[.int .i64 κ, .string ⟨z.toArray⟩] 66)).drew (by rfl) _ _ (by rfl) w.heap.size _ xs (by rfl) HO2.out (some ⟨wr.heap.size, 0, none⟩) 1 1 [(κ, z)] (by rfl) (by rfl) HRD.out (by show xs.length + 1 ≤ _; omega) HB2.out.size ys HY.out ?_
                     intro N2 nc2 w3 hown2 hb3)
      all_goals
        have hb4 := HB2.out.trans hb3
        go_wp2_with fail
        go_roundw
        case rel => exact ⟨k + 1, N2, nc2, ys, by omega, by go_num, rfl, HN, by have := HYL.out; omega, hown2, hb4⟩
        case measure => simp [intOf]; omega
    · have hfin := HX.out
      rw [List.take_of_length_le (by omega)] at hfin
      have HF := Lib.hid hfin
      clear hfin HX
      go_wp2
      go_ret
      rw [HF.out]
      exact ⟨C, cc, rfl, hown, hb⟩
/-- May it be a key? -/
theorem rkey_any (s : By) (w : World) (hs : s.length ≤ 100000) : Calls Tryd.prog 34 #[.string ⟨s.toArray⟩] w fun en w' => en = .returned (.bool (keyI s)) ∧ w = w' := by
  by_cases h0 : s = []
  · subst h0
    have HK := Lib.hid (show keyI [] = false by rfl)
    go_enter Tryd.func34, Tryd.ntmps34
    go_wp2_with fail
    go_ret
    exact ⟨by rw [HK.out]; rfl, rfl⟩
  · have q0 : (s == ([] : By)) = false := by simpa using h0
    have hpos : 0 < s.length := List.length_pos_iff.2 h0
    by_cases h60 : s.length ≤ 60
    · have HK := Lib.hid (show keyI s = decide (sqL s = s) by unfold keyI; simp [h0, h60])
      have C := Lib.hid (rsq_any ⟨s.toArray⟩ w (by show s.toArray.size ≤ _; simp; omega))
      have C := Lib.hid (show Calls Tryd.prog 52 #[.string ⟨s.toArray⟩] w fun e w' => e = .returned (.string ⟨(sqL s).toArray⟩) ∧ w = w' from C.out)
      obtain ⟨u, hu⟩ : ∃ u, sqL s = u := ⟨_, rfl⟩
      rw [hu] at C HK
      have i1 : (s.length : Int) ≤ 60 := by omega
      clear hu
      by_cases he : u = s
      · have hb : (u == s) = true := by simpa using he
        rw [decide_eq_true he] at HK
        clear he h0
        go_enter Tryd.func34, Tryd.ntmps34
        go_wp2_with fail
        refine C.out.mono ?_
        rintro en w1 ⟨rfl, rfl⟩
        go_wp2_with fail
        go_ret
        exact ⟨by rw [HK.out]; rfl, rfl⟩
      · have hb : (u == s) = false := by simpa using he
        rw [decide_eq_false he] at HK
        clear he h0
        go_enter Tryd.func34, Tryd.ntmps34
        go_wp2_with fail
        refine C.out.mono ?_
        rintro en w1 ⟨rfl, rfl⟩
        go_wp2_with fail
        go_ret
        exact ⟨by rw [HK.out]; rfl, rfl⟩
    · have HK := Lib.hid (show keyI s = false by unfold keyI; simp [h60])
      have i1 : (60 : Int) < (s.length : Int) := by omega
      clear h0
      go_enter Tryd.func34, Tryd.ntmps34
      go_wp2_with fail
      go_ret
      exact ⟨by rw [HK.out]; rfl, rfl⟩
end Go.Proofs.YtckldeabbkdbjaaDoor

namespace Go.Proofs.YtckldeabbkdbjaaDoor
open Go.RowKit

theorem right_take {ts : List Tok} {k : Nat} {f : Tok} (h : ts[k]? = some f) (hr : rightI false (ts.take k) = true) (p : Bool) (hp : p = endT false (ts.take k)) :
    (okI f = true → ¬ (p = true ∧ f.1 = 1) → rightI false (ts.take (k + 1)) = true) ∧ ((okI f = false ∨ (p = true ∧ f.1 = 1)) → rightI false ts = false) := by
  have e1 : ts.take (k + 1) = ts.take k ++ [f] := by rw [List.take_add_one, h]; rfl
  have e2 : ts = ts.take k ++ f :: ts.drop (k + 1) := by
    have hk : k < ts.length := (List.getElem?_eq_some_iff.1 h).1
    have := List.take_append_drop k ts
    rw [drop_one h] at this
    exact this.symm
  refine ⟨fun h1 h2 => ?_, fun h1 => ?_⟩
  · rw [e1, right_app, hr, ← hp]
    have h2' : (p && f.1 == 1) = false := by
      cases p
      · rfl
      · simp at h2 ⊢; exact h2
    simp [rightI, h1, h2']
  · rw [e2, right_app, hr, ← hp]
    rcases h1 with h1 | ⟨rfl, h1⟩
    · simp [rightI, h1]
    · simp [rightI, h1]
theorem end_take {ts : List Tok} {j : Nat} {g : Tok} (h : ts[j]? = some g) (p : Bool) : endT p (ts.take (j + 1)) = (g.1 == 1) := by
  have e1 : ts.take (j + 1) = ts.take j ++ [g] := by rw [List.take_add_one, h]; rfl
  rw [e1, end_app]
theorem okI_low {κ : Int} {z : By} (h : κ < 1 ∨ 16 < κ) : okI (κ, z) = false := by
  unfold okI
  simp only
  rw [if_neg (by omega), if_neg (by omega), if_neg (by omega)]
theorem okI_one {z : By} : okI (1, z) = decide (z ≠ []) := by unfold okI; simp
theorem okI_key {κ : Int} {z : By} (h : 4 ≤ κ ∧ κ ≤ 13) : okI (κ, z) = keyI z := by
  unfold okI
  simp only
  rw [if_neg (by omega), if_neg (by omega), if_pos h]
theorem okI_void {κ : Int} {z : By} (h : κ = 2 ∨ κ = 3 ∨ (14 ≤ κ ∧ κ ≤ 16)) : okI (κ, z) = decide (z = []) := by
  unfold okI
  simp only
  rw [if_neg (by omega), if_pos h]
set_option maxRecDepth 100000 in
set_option maxHeartbeats 4000000 in
theorem rright_any (A : Option Addr) (c : Nat) (ts : List Tok) (w : World) (hr : Rd w A ts) (hl : ts.length ≤ 100000) (hz : Hid (∀ t ∈ ts, t.2.length ≤ 100000)) :
    Calls Tryd.prog 17 #[.slice A ts.length c] w fun en w' => en = .returned (.bool (rightI false ts)) ∧ ∃ n, w' = w.drewN n := by
  go_enter Tryd.func17, Tryd.ntmps17
  go_wp2_with fail
  go_loopw [3] (fun i wr => ∃ k m : Nat, k ≤ ts.length ∧ i = .int .i64 k ∧ Hid (rightI false (ts.take k) = true) ∧ wr = w.drewN m) (fun i _ => ts.length - (intOf i).toNat)
  case atStart => exact ⟨0, 0, Nat.zero_le _, rfl, Lib.hid rfl, rfl⟩
  case round =>
    obtain ⟨k, m, hk, rfl, HX, rfl⟩ := hrel
    by_cases hlt : k < ts.length
    · obtain ⟨b, o, rfl, hcell⟩ := hr (by omega)
      obtain ⟨f, hf⟩ : ∃ f, ts[k]? = some f := ⟨_, List.getElem?_eq_getElem hlt⟩
      obtain ⟨c1, c2⟩ := hcell k f hf
      have hzl := hz.out f (List.mem_of_getElem? hf)
      obtain ⟨T1, T2⟩ := right_take hf HX.out _ rfl
      have HT1 := Lib.hid T1
      have HT2 := Lib.hid T2
      obtain ⟨κ, z⟩ := f
      simp only at c1 c2 hzl
      have i1 : (k : Int) < (ts.length : Int) := by omega
      have HC := Lib.hid hcell
      have HF := Lib.hid hf
      clear hf hcell T1 T2
      by_cases hlow : κ < 1 ∨ 16 < κ
      · have HB := Lib.hid (HT2.out (.inl (okI_low hlow)))
        rcases hlow with q | q
        · go_wp2_with fail
          go_quiet (fail)
          go_wp2_with fail
          go_ret
          exact ⟨by rw [HB.out]; rfl, _, rfl⟩
        · have q2 : (1 : Int) ≤ κ := by omega
          go_wp2_with fail
          go_quiet (fail)
          go_wp2_with fail
          go_ret
          exact ⟨by rw [HB.out]; rfl, _, rfl⟩
      · have r1 : (1 : Int) ≤ κ := by omega
        have r2 : κ ≤ 16 := by omega
        by_cases q1 : κ = 1
        · subst q1
          by_cases hz0 : z = []
          · have q0 : (z == ([] : By)) = true := by simpa using hz0
            have HB := Lib.hid (HT2.out (.inl (by rw [okI_one]; simpa using hz0)))
            clear hz0
            go_wp2_with fail
            go_quiet (fail)
            go_wp2_with fail
            go_ret
            exact ⟨by rw [HB.out]; rfl, _, rfl⟩
          · have q0 : (z == ([] : By)) = false := by simpa using hz0
            have HOK := Lib.hid (show okI (1, z) = true by rw [okI_one]; simpa using hz0)
            clear hz0
            rcases Nat.eq_zero_or_pos k with rfl | hkp
            · simp only [Nat.zero_mul, Nat.add_zero] at c1 c2
              have HN := Lib.hid (HT1.out HOK.out (fun h => by simp [endT] at h))
              go_wp2_with fail
              go_quiet (fail)
              go_wp2_with fail
              go_roundw
              case rel => exact ⟨0 + 1, _, by omega, by go_num, HN, rfl⟩
              case measure => simp [intOf]; omega
            · obtain ⟨j, rfl⟩ : ∃ j, k = j + 1 := ⟨k - 1, by omega⟩
              obtain ⟨g, hg⟩ : ∃ g, ts[j]? = some g := ⟨_, List.getElem?_eq_getElem (by omega)⟩
              obtain ⟨d1, d2⟩ := HC.out j g hg
              have HE := Lib.hid (end_take hg false)
              clear hg
              by_cases hg1 : g.1 = 1
              · have hb : (g.1 == 1) = true := by simpa using hg1
                have HB := Lib.hid (HT2.out (.inr ⟨by rw [HE.out]; exact hb, rfl⟩))
                clear hg1
                go_wp2_with fail
                go_quiet (fail)
                go_wp2_with fail
                go_ret
                exact ⟨by rw [HB.out]; rfl, _, rfl⟩
              · have hb : (g.1 == 1) = false := by simpa using hg1
                have HN := Lib.hid (HT1.out HOK.out (fun h => by rw [HE.out, hb] at h; exact absurd h.1 (by decide)))
                clear hg1
                go_wp2_with fail
                go_quiet (fail)
                go_wp2_with fail
                go_roundw
                case rel => exact ⟨j + 1 + 1, _, by omega, by go_num, HN, rfl⟩
                case measure => simp [intOf]; omega
        · have n1 : (κ == 1) = false := by simpa using q1
          by_cases q4 : 4 ≤ κ ∧ κ ≤ 13
          · obtain ⟨q4, q13⟩ := q4
            have HKY := Lib.hid (okI_key (z := z) ⟨q4, q13⟩)
            have n2 : (κ == 2) = false := by simp; omega
            have n3 : (κ == 3) = false := by simp; omega
            have CK := Lib.hid (fun W => rkey_any z W hzl)
            clear q1
            cases hky : keyI z with
            | false =>
              rw [hky] at CK HKY
              have HB := Lib.hid (HT2.out (.inl HKY.out))
              clear hky
              go_wp2_with fail
              go_quiet (fail)
              go_wp2_with fail
              refine (CK.out _).mono ?_
              rintro en w1 ⟨rfl, rfl⟩
              go_wp2_with fail
              go_ret
              exact ⟨by rw [HB.out]; rfl, _, rfl⟩
            | true =>
              rw [hky] at CK HKY
              have HN := Lib.hid (HT1.out HKY.out (fun h => by have := h.2; simp only at this; omega))
              clear hky
              go_wp2_with fail
              go_quiet (fail)
              go_wp2_with fail
              refine (CK.out _).mono ?_
              rintro en w1 ⟨rfl, rfl⟩
              go_wp2_with fail
              go_roundw
              case rel => exact ⟨k + 1, _, by omega, by go_num, HN, rfl⟩
              case measure => simp [intOf]; omega
          · have hv : κ = 2 ∨ κ = 3 ∨ (14 ≤ κ ∧ κ ≤ 16) := by omega
            have HV := Lib.hid (okI_void (z := z) hv)
            clear q4 hlow
            rcases hv with rfl | rfl | ⟨g1, g2⟩
            · by_cases hz0 : z = []
              · have q0 : (z == ([] : By)) = true := by simpa using hz0
                have HN := Lib.hid (HT1.out (by rw [HV.out]; simpa using hz0) (fun h => q1 h.2))
                clear hz0
                go_wp2_with fail
                go_quiet (fail)
                go_wp2_with fail
                go_roundw
                case rel => exact ⟨k + 1, _, by omega, by go_num, HN, rfl⟩
                case measure => simp [intOf]; omega
              · have q0 : (z == ([] : By)) = false := by simpa using hz0
                have HB := Lib.hid (HT2.out (.inl (by rw [HV.out]; simpa using hz0)))
                clear hz0
                go_wp2_with fail
                go_quiet (fail)
                go_wp2_with fail
                go_ret
                exact ⟨by rw [HB.out]; rfl, _, rfl⟩
            · by_cases hz0 : z = []
              · have q0 : (z == ([] : By)) = true := by simpa using hz0
                have HN := Lib.hid (HT1.out (by rw [HV.out]; simpa using hz0) (fun h => q1 h.2))
                clear hz0
                go_wp2_with fail
                go_quiet (fail)
                go_wp2_with fail
                go_roundw
                case rel => exact ⟨k + 1, _, by omega, by go_num, HN, rfl⟩
                case measure => simp [intOf]; omega
              · have q0 : (z == ([] : By)) = false := by simpa using hz0
                have HB := Lib.hid (HT2.out (.inl (by rw [HV.out]; simpa using hz0)))
                clear hz0
                go_wp2_with fail
                go_quiet (fail)
                go_wp2_with fail
                go_ret
                exact ⟨by rw [HB.out]; rfl, _, rfl⟩
            · have n2 : (κ == 2) = false := by simp; omega
              have n3 : (κ == 3) = false := by simp; omega
              have g0 : (4 : Int) ≤ κ := by omega
              have g3 : (13 : Int) < κ := by omega
              by_cases hz0 : z = []
              · have q0 : (z == ([] : By)) = true := by simpa using hz0
                have HN := Lib.hid (HT1.out (by rw [HV.out]; simpa using hz0) (fun h => q1 h.2))
                clear hz0
                go_wp2_with fail
                go_quiet (fail)
                go_wp2_with fail
                go_roundw
                case rel => exact ⟨k + 1, _, by omega, by go_num, HN, rfl⟩
                case measure => simp [intOf]; omega
              · have q0 : (z == ([] : By)) = false := by simpa using hz0
                have HB := Lib.hid (HT2.out (.inl (by rw [HV.out]; simpa using hz0)))
                clear hz0
                go_wp2_with fail
                go_quiet (fail)
                go_wp2_with fail
                go_ret
                exact ⟨by rw [HB.out]; rfl, _, rfl⟩
    · have HB := Lib.hid (show rightI false ts = true by have := HX.out; rwa [List.take_of_length_le (by omega)] at this)
      have i1 : (ts.length : Int) ≤ (k : Int) := by omega
      go_wp2_with fail
      go_ret
      exact ⟨by rw [HB.out]; rfl, _, rfl⟩
end Go.Proofs.YtckldeabbkdbjaaDoor

namespace Go.Proofs.YtckldeabbkdbjaaDoor
open Go.RowKit

theorem wpList_app1 {ops : Array Oper} {rest : List Oper} {o : Oper} {a : Act} {Q : Exit → Act → World → Prop} (w V : World) (C : Option Addr) (cc : Nat) (xs : List Tok) (κ : Int) (z : By) (hgd : o.guard = none) (s x : Operand)
    (ho : o.op = .call { callee := .builtin .append, args := #[s, x], argTypes := #[32, 32] }) (hs : a.eval s = .slice C xs.length cc) (hown : Own 65 V w.heap.size C cc xs) (hb : Below w.heap.size w V) (hx : a.eval x = .slice (some ⟨V.heap.size, 0, none⟩) 1 1) (hlen : xs.length ≤ 190000) (r : List Tok) (hr0 : xs ++ [(κ, z)] = r)
    (h : ∀ A' c' V', Hid (Own 65 V' w.heap.size A' c' r) → Hid (Below w.heap.size w V') → wpList Tryd.prog ops Q rest (a.put o.dst (.slice A' r.length c')) V') : wpList Tryd.prog ops Q (o :: rest) a (V.alloc (.cells #[.int .i64 κ, .string ⟨z.toArray⟩] 65)) := by
  have b1 := one_below V (.cells #[.int .i64 κ, .string ⟨z.toArray⟩] 65)
  have h1 := bch hb b1
  exact wpList_append_rdn40 _ hgd s x ho w.heap.size _ xs hs (hown.below b1) (some ⟨V.heap.size, 0, none⟩) 1 1 [(κ, z)] rfl hx (one_read (new_fst V _ _ _) (new_snd V _ _ _)) (by show xs.length + 1 ≤ _; omega) h1.size r hr0 fun A' c' V' ho hb' => h A' c' V' (Lib.hid ho) (Lib.hid (h1.trans hb'))
theorem show_step {ts : List Tok} {k : Nat} {f : Tok} (h : ts[k]? = some f) : showI (ts.take (k + 1)) = showI (ts.take k) ++ showT f := by
  rw [List.take_add_one, h]
  simp [showI]
theorem showT_name {j : Nat} {nm z : By} (h : namesL[j]? = some nm) (hj : j ≤ 12) : showT ((j : Int) + 4, z) = if j ≤ 9 then [(4, nm), (5, []), (1, z), (6, [])] else [(4, nm)] := by
  have hn : nameI ((j : Int) + 4).toNat = nm := by
    have e : ((j : Int) + 4).toNat = j + 4 := by omega
    unfold nameI
    rw [e, Nat.add_sub_cancel, List.getD_eq_getElem?_getD, h]
    rfl
  unfold showT
  simp only
  rw [hn, if_neg (by omega), if_neg (by omega)]
  by_cases h9 : j ≤ 9
  · rw [if_pos (by omega), if_pos h9]
  · rw [if_neg (by omega), if_pos (by omega), if_neg h9]
set_option maxRecDepth 100000 in
set_option maxHeartbeats 4000000 in
theorem rshow_any (A : Option Addr) (c : Nat) (ts : List Tok) (w : World) (hr : Rd w A ts) (hl : ts.length ≤ 10000) :
    Calls Tryd.prog 20 #[.slice A ts.length c] w (Res 65 w (showI ts)) := by
  have ho0 := own_empty 65 w
  have hb0 := one_below w (.cells #[] 65)
  go_enter Tryd.func20, Tryd.ntmps20
  go_wp2_with fail
  go_loopw [3, 4] (fun v i wr => ∃ (k : Nat) (C : Option Addr) (cc : Nat) (xs : List Tok), k ≤ ts.length ∧ i = .int .i64 k ∧ v = .slice C xs.length cc ∧ Hid (showI (ts.take k) = xs) ∧ xs.length ≤ 4 * k ∧ Hid (Own 65 wr w.heap.size C cc xs) ∧ Hid (Below w.heap.size w wr)) (fun _ i _ => ts.length - (intOf i).toNat)
  case atStart => exact ⟨0, _, 0, [], Nat.zero_le _, rfl, rfl, Lib.hid rfl, by simp, Lib.hid ho0, Lib.hid hb0⟩
  case round =>
    clear ho0 hb0
    obtain ⟨k, C, cc, Y0, hk, rfl, rfl, HX, hxl, HOw, HBw⟩ := hrel
    by_cases hlt : k < ts.length
    · obtain ⟨b, o, rfl, hcell⟩ := (hr.below HBw.out) (by omega)
      obtain ⟨f, hf⟩ : ∃ f, ts[k]? = some f := ⟨_, List.getElem?_eq_getElem hlt⟩
      obtain ⟨c1, c2⟩ := hcell k f hf
      have HF := Lib.hid hf
      obtain ⟨κ, z⟩ := f
      simp only at c1 c2
      have i1 : (k : Int) < (ts.length : Int) := by omega
      clear hf hcell
      by_cases q1 : κ = 1
      · subst q1
        have HSH := Lib.hid (show showT (1, z) = [(1, z)] from rfl)
        obtain ⟨Y1, hY1⟩ : ∃ Y, Y0 ++ [((1 : Int), (z : By))] = Y := ⟨_, rfl⟩
        have HN := Lib.hid (show showI (ts.take (k + 1)) = Y1 by rw [show_step HF.out, HX.out, HSH.out]; rw [← hY1]; try simp)
        have HY1 := Lib.hid hY1
        have HL1 := Lib.hid (show Y1.length = Y0.length + 1 by rw [← hY1]; simp)
        have HLE := Lib.hid (show Y1.length ≤ 4 * (k + 1) by have := HL1.out; omega)
        clear hY1
        go_wp2_with fail
        go_quiet (fail)
        have HO0 := Lib.hid (HOw.out.below (drewN_below wr nq))
        have HB0 := Lib.hid (bch HBw.out (drewN_below wr nq))
        generalize wr.drewN nq = V0 at HO0 HB0 ⊢
        clear c1 c2
        go_wp2_with (at_builtin; first
          | (refine wpList_app1 w V0 _ _ Y0 (1) (z) rfl _ _ rfl rfl HO0.out HB0.out rfl (by omega) Y1 HY1.out ?_; intro A1 a1 V1 HO1 HB1))
        go_roundw
        case rel => exact ⟨k + 1, _, _, Y1, by omega, by go_num, rfl, HN, HLE.out, HO1, HB1⟩
        case measure => simp [intOf]; omega
      · have n1 : (κ == 1) = false := by simpa using q1
        by_cases q2 : κ = 2
        · subst q2
          have HSH := Lib.hid (show showT (2, z) = [(2, [])] from rfl)
          obtain ⟨Y1, hY1⟩ : ∃ Y, Y0 ++ [((2 : Int), ([] : By))] = Y := ⟨_, rfl⟩
          have HN := Lib.hid (show showI (ts.take (k + 1)) = Y1 by rw [show_step HF.out, HX.out, HSH.out]; rw [← hY1]; try simp)
          have HY1 := Lib.hid hY1
          have HL1 := Lib.hid (show Y1.length = Y0.length + 1 by rw [← hY1]; simp)
          have HLE := Lib.hid (show Y1.length ≤ 4 * (k + 1) by have := HL1.out; omega)
          clear hY1
          go_wp2_with fail
          go_quiet (fail)
          have HO0 := Lib.hid (HOw.out.below (drewN_below wr nq))
          have HB0 := Lib.hid (bch HBw.out (drewN_below wr nq))
          generalize wr.drewN nq = V0 at HO0 HB0 ⊢
          clear c1 c2
          go_wp2_with (at_builtin; first
            | (refine wpList_app1 w V0 _ _ Y0 (2) ([]) rfl _ _ rfl rfl HO0.out HB0.out rfl (by omega) Y1 HY1.out ?_; intro A1 a1 V1 HO1 HB1))
          go_roundw
          case rel => exact ⟨k + 1, _, _, Y1, by omega, by go_num, rfl, HN, HLE.out, HO1, HB1⟩
          case measure => simp [intOf]; omega
        · have n2 : (κ == 2) = false := by simpa using q2
          by_cases q3 : κ = 3
          · subst q3
            have HSH := Lib.hid (show showT (3, z) = [(3, [])] from rfl)
            obtain ⟨Y1, hY1⟩ : ∃ Y, Y0 ++ [((3 : Int), ([] : By))] = Y := ⟨_, rfl⟩
            have HN := Lib.hid (show showI (ts.take (k + 1)) = Y1 by rw [show_step HF.out, HX.out, HSH.out]; rw [← hY1]; try simp)
            have HY1 := Lib.hid hY1
            have HL1 := Lib.hid (show Y1.length = Y0.length + 1 by rw [← hY1]; simp)
            have HLE := Lib.hid (show Y1.length ≤ 4 * (k + 1) by have := HL1.out; omega)
            clear hY1
            go_wp2_with fail
            go_quiet (fail)
            have HO0 := Lib.hid (HOw.out.below (drewN_below wr nq))
            have HB0 := Lib.hid (bch HBw.out (drewN_below wr nq))
            generalize wr.drewN nq = V0 at HO0 HB0 ⊢
            clear c1 c2
            go_wp2_with (at_builtin; first
              | (refine wpList_app1 w V0 _ _ Y0 (3) ([]) rfl _ _ rfl rfl HO0.out HB0.out rfl (by omega) Y1 HY1.out ?_; intro A1 a1 V1 HO1 HB1))
            go_roundw
            case rel => exact ⟨k + 1, _, _, Y1, by omega, by go_num, rfl, HN, HLE.out, HO1, HB1⟩
            case measure => simp [intOf]; omega
          · have n3 : (κ == 3) = false := by simpa using q3
            by_cases q4 : 4 ≤ κ ∧ κ ≤ 16
            · obtain ⟨j, rfl⟩ : ∃ j : Nat, κ = (j : Int) + 4 := ⟨(κ - 4).toNat, by omega⟩
              have hj : j ≤ 12 := by omega
              obtain ⟨nm, hnm⟩ : ∃ nm, namesL[j]? = some nm := ⟨_, List.getElem?_eq_getElem (show j < namesL.length by show j < 13; omega)⟩
              have HSHT := Lib.hid (showT_name (z := z) hnm hj)
              have HNM := Lib.hid hnm
              have m1 : (4 : Int) ≤ (j : Int) + 4 := by omega
              have m2 : (j : Int) + 4 ≤ 16 := by omega
              have m3 : (j : Int) < 13 := by omega
              clear hnm q1 q2 q3 q4
              by_cases h9 : j ≤ 9
              · have HSH := Lib.hid (show showT ((j : Int) + 4, z) = [(4, nm), (5, []), (1, z), (6, [])] by rw [HSHT.out, if_pos h9])
                have m4 : (j : Int) + 4 ≤ 13 := by omega
                obtain ⟨Y1, hY1⟩ : ∃ Y, Y0 ++ [((4 : Int), (nm : By))] = Y := ⟨_, rfl⟩
                obtain ⟨Y2, hY2⟩ : ∃ Y, Y1 ++ [((5 : Int), ([] : By))] = Y := ⟨_, rfl⟩
                obtain ⟨Y3, hY3⟩ : ∃ Y, Y2 ++ [((1 : Int), (z : By))] = Y := ⟨_, rfl⟩
                obtain ⟨Y4, hY4⟩ : ∃ Y, Y3 ++ [((6 : Int), ([] : By))] = Y := ⟨_, rfl⟩
                have HN := Lib.hid (show showI (ts.take (k + 1)) = Y4 by rw [show_step HF.out, HX.out, HSH.out]; rw [← hY4, ← hY3, ← hY2, ← hY1]; try simp)
                have HY1 := Lib.hid hY1
                have HL1 := Lib.hid (show Y1.length = Y0.length + 1 by rw [← hY1]; simp)
                have HY2 := Lib.hid hY2
                have HL2 := Lib.hid (show Y2.length = Y1.length + 1 by rw [← hY2]; simp)
                have HY3 := Lib.hid hY3
                have HL3 := Lib.hid (show Y3.length = Y2.length + 1 by rw [← hY3]; simp)
                have HY4 := Lib.hid hY4
                have HL4 := Lib.hid (show Y4.length = Y3.length + 1 by rw [← hY4]; simp)
                have HLE := Lib.hid (show Y4.length ≤ 4 * (k + 1) by have := HL1.out; have := HL2.out; have := HL3.out; have := HL4.out; omega)
                clear hY1 hY2 hY3 hY4
                go_wp2_with fail
                go_quiet (fail)
                have HO0 := Lib.hid (HOw.out.below (drewN_below wr nq))
                have HB0 := Lib.hid (bch HBw.out (drewN_below wr nq))
                generalize wr.drewN nq = V0 at HO0 HB0 ⊢
                clear c1 c2
                have HNC := Lib.hid (fun i s (h : namesL[i]? = some s) => names_cell V0 h)
                have bN := one_below V0 (.cells namesV 9)
                have HO0 := Lib.hid (HO0.out.below bN)
                have HB0 := Lib.hid (bch HB0.out bN)
                clear bN
                go_wp2_with fail
                refine (rnames_any V0).mono ?_
                rintro en w1 ⟨rfl, rfl⟩
                have n0 := HNC.out j nm HNM.out
                generalize V0.alloc (.cells namesV 9) = V0 at HO0 HB0 n0 ⊢
                go_wp2_with (at_builtin; first
                  | (refine wpList_app1 w V3 _ _ Y3 (6) ([]) rfl _ _ rfl rfl HO3.out HB3.out rfl (by have := HL1.out; have := HL2.out; have := HL3.out; omega) Y4 HY4.out ?_; intro A4 a4 V4 HO4 HB4)
                  | (refine wpList_app1 w V2 _ _ Y2 (1) (z) rfl _ _ rfl rfl HO2.out HB2.out rfl (by have := HL1.out; have := HL2.out; omega) Y3 HY3.out ?_; intro A3 a3 V3 HO3 HB3)
                  | (refine wpList_app1 w V1 _ _ Y1 (5) ([]) rfl _ _ rfl rfl HO1.out HB1.out rfl (by have := HL1.out; omega) Y2 HY2.out ?_; intro A2 a2 V2 HO2 HB2)
                  | (refine wpList_app1 w V0 _ _ Y0 (4) (nm) rfl _ _ rfl rfl HO0.out HB0.out rfl (by omega) Y1 HY1.out ?_; intro A1 a1 V1 HO1 HB1))
                go_roundw
                case rel => exact ⟨k + 1, _, _, Y4, by omega, by go_num, rfl, HN, HLE.out, HO4, HB4⟩
                case measure => simp [intOf]; omega
              · have HSH := Lib.hid (show showT ((j : Int) + 4, z) = [(4, nm)] by rw [HSHT.out, if_neg h9])
                have m4 : (13 : Int) < (j : Int) + 4 := by omega
                obtain ⟨Y1, hY1⟩ : ∃ Y, Y0 ++ [((4 : Int), (nm : By))] = Y := ⟨_, rfl⟩
                have HN := Lib.hid (show showI (ts.take (k + 1)) = Y1 by rw [show_step HF.out, HX.out, HSH.out]; rw [← hY1]; try simp)
                have HY1 := Lib.hid hY1
                have HL1 := Lib.hid (show Y1.length = Y0.length + 1 by rw [← hY1]; simp)
                have HLE := Lib.hid (show Y1.length ≤ 4 * (k + 1) by have := HL1.out; omega)
                clear hY1
                go_wp2_with fail
                go_quiet (fail)
                have HO0 := Lib.hid (HOw.out.below (drewN_below wr nq))
                have HB0 := Lib.hid (bch HBw.out (drewN_below wr nq))
                generalize wr.drewN nq = V0 at HO0 HB0 ⊢
                clear c1 c2
                have HNC := Lib.hid (fun i s (h : namesL[i]? = some s) => names_cell V0 h)
                have bN := one_below V0 (.cells namesV 9)
                have HO0 := Lib.hid (HO0.out.below bN)
                have HB0 := Lib.hid (bch HB0.out bN)
                clear bN
                go_wp2_with fail
                refine (rnames_any V0).mono ?_
                rintro en w1 ⟨rfl, rfl⟩
                have n0 := HNC.out j nm HNM.out
                generalize V0.alloc (.cells namesV 9) = V0 at HO0 HB0 n0 ⊢
                go_wp2_with (at_builtin; first
                  | (refine wpList_app1 w V0 _ _ Y0 (4) (nm) rfl _ _ rfl rfl HO0.out HB0.out rfl (by omega) Y1 HY1.out ?_; intro A1 a1 V1 HO1 HB1))
                go_roundw
                case rel => exact ⟨k + 1, _, _, Y1, by omega, by go_num, rfl, HN, HLE.out, HO1, HB1⟩
                case measure => simp [intOf]; omega
            · have HSH := Lib.hid (show showT (κ, z) = [] by
                unfold showT
                simp only
                rw [if_neg q1, if_neg (by omega), if_neg (by omega), if_neg (by omega)])
              have hways : κ < 4 ∨ 16 < κ := by omega
              rcases hways with m1 | m1
              · have HN := Lib.hid (show showI (ts.take (k + 1)) = Y0 by rw [show_step HF.out, HX.out, HSH.out]; simp)
                have HLE := Lib.hid (show Y0.length ≤ 4 * (k + 1) by omega)
                go_wp2_with fail
                go_quiet (fail)
                have HO0 := Lib.hid (HOw.out.below (drewN_below wr nq))
                have HB0 := Lib.hid (bch HBw.out (drewN_below wr nq))
                generalize wr.drewN nq = V0 at HO0 HB0 ⊢
                clear c1 c2
                go_wp2_with fail
                go_roundw
                case rel => exact ⟨k + 1, _, _, Y0, by omega, by go_num, rfl, HN, HLE.out, HO0, HB0⟩
                case measure => simp [intOf]; omega
              · have m2 : (4 : Int) ≤ κ := by omega
                have m3 : (13 : Int) < κ := by omega
                have HN := Lib.hid (show showI (ts.take (k + 1)) = Y0 by rw [show_step HF.out, HX.out, HSH.out]; simp)
                have HLE := Lib.hid (show Y0.length ≤ 4 * (k + 1) by omega)
                go_wp2_with fail
                go_quiet (fail)
                have HO0 := Lib.hid (HOw.out.below (drewN_below wr nq))
                have HB0 := Lib.hid (bch HBw.out (drewN_below wr nq))
                generalize wr.drewN nq = V0 at HO0 HB0 ⊢
                clear c1 c2
                go_wp2_with fail
                go_roundw
                case rel => exact ⟨k + 1, _, _, Y0, by omega, by go_num, rfl, HN, HLE.out, HO0, HB0⟩
                case measure => simp [intOf]; omega
    · have hfin := HX.out
      rw [List.take_of_length_le (by omega)] at hfin
      have HF := Lib.hid hfin
      have i1 : (ts.length : Int) ≤ (k : Int) := by omega
      clear hfin HX
      go_wp2
      go_ret
      rw [HF.out]
      exact ⟨C, cc, rfl, HOw.out, HBw.out⟩
end Go.Proofs.YtckldeabbkdbjaaDoor
