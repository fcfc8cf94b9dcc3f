/-
  The contract of the document's disk's Copy: three rows copied, in whatever order their beginnings are made.
-/
import Derived.Test.YtnfnbbipmempjaaO
namespace Go.Proofs.Ytnfnbbipmempjaa
open Go.RowKit

theorem step_copy2 {ops : Array Oper} {o : Oper} {a : Act} {K : Act → World → Prop} {Q : Exit → Act → World → Prop} {E : Prop} (w : World) (T e k B : Nat) (z : Value) (hT : Try.prog.underlying T = some (.slice e)) (hinf : (Try.prog.info? e).map (fun i => (i.zero, i.size, i.bytes)) = some (some z, k, B)) (hB : B ≤ 24) (hz : z.cells.size = k) (hk0 : 0 < k) (hgd : o.guard = none) (s x : Operand)
    (ho : o.op = .call { callee := .builtin .append, args := #[s, x], argTypes := #[T, T] }) (g : Nat) (hs : a.eval s = .slice (some ⟨g, 0, none⟩) 0 0) (b0 : Nat) (hb0 : b0 ≤ g) (hbw : b0 ≤ w.heap.size) (hg : OwnR w e k (some ⟨g, 0, none⟩) 0 0 [])
    (A : Option Addr) (n c : Nat) (xs : List Value) (hx : a.eval x = .slice A n c) (hown : OwnR w e k A n c xs) (h1 : ∀ u ∈ xs, u.oneCell' = true) (hlen : n ≤ 200000)
    (h : ∀ A' c' w', OwnR w' e k A' n c' xs → Kp NoB w w' → (∀ b, rowB A' = some b → b0 ≤ b ∧ (w.heap.size ≤ b ∨ OwnR w e k (some ⟨b, 0, none⟩) 0 0 [])) → K (a.put o.dst (.slice A' n c')) w') : if Region.wanted o (yielded ops a.tmps) = true then Oper.wp Try.prog o a w K Q else E := by
  have hw : Region.wanted o (yielded ops a.tmps) = true := by simp [Region.wanted, hgd]
  rw [if_pos hw]
  obtain ⟨i0, hi, hz0, hz1, hz2⟩ := info_parts hinf
  rcases Nat.eq_zero_or_pos n with hn | hn
  · subst hn
    have hxs : xs = [] := List.eq_nil_of_length_eq_zero (by simpa using hown.1)
    subst hxs
    have hrun : (Builtin.append_ #[T, T] o.type #[.slice (some ⟨g, 0, none⟩) 0 0, .slice A 0 c]).run Try.prog w = .ok (.slice (some ⟨g, 0, none⟩) 0 0) w := by
      cases A with
      | none =>
        obtain ⟨_, rfl⟩ := hown.cap.2.2 rfl
        exact run_append_owned_none (P := Try.prog) (w := w) 0 T o.type e i0 k hT hi _ 0 [] hg
      | some ad =>
        have := run_append_room_cells (P := Try.prog) w T o.type e i0 hT hi g 0 0 0 ad 0 c [] (by simp) (fun j u hj => by simp at hj) (fun u hu => by simp at hu) (by omega) (fun j hj => by simp at hj) (fun j hj => by simp at hj)
        simpa [World.setCells] using this
    unfold Oper.wp execOp
    simp only [ho, resolve, invoke, builtin, Sem.run_bind, Sem.run_pure, Result.andThen_ok, List.map_toArray, List.map_cons, List.map_nil, hs, hx, hrun]
    refine h _ _ _ hg (kno w) (fun b hb => ?_)
    simp [rowB] at hb
    subst hb
    exact ⟨hb0, .inr hg⟩
  · obtain ⟨b, rfl, hc⟩ := OwnR.cell hown hn
    have hcells : ∀ j u, xs[j]? = some u → w.cell? ((⟨b, 0, none⟩ : Addr).add j) = some u := fun j u hj => by
      have := hc j u hj
      unfold Addr.add
      split
      · rename_i h0; subst h0; exact this
      · simpa using this
    obtain ⟨v', w', hrun, h2, h3⟩ := run_append_arg_grows (P := Try.prog) w T o.type e i0 z k B hT hi hz0 hz1 hz2 hz hk0 ⟨g, 0, none⟩ 0 0 [] (by simp) (fun j u hj => by simp at hj) ⟨b, 0, none⟩ n c xs hown.1 hcells (by omega) (by unfold maxLen; omega) (by have : (0 + n) * B ≤ 200000 * 24 := Nat.mul_le_mul (by omega) hB; omega)
    rw [Nat.zero_add, List.nil_append] at h2
    obtain ⟨A', c', rfl, hA'⟩ : ∃ A' c', v' = .slice A' n c' ∧ ∀ q, rowB A' = some q → w.heap.size ≤ q := by
      rcases h2.2 with ⟨q, q2⟩ | ⟨g', cap, cur, q, q2, _⟩
      · omega
      · exact ⟨_, _, q, fun r hr => by simp [rowB] at hr; omega⟩
    have h2' : OwnR w' e k A' n c' xs := by
      refine ⟨h2.1, ?_⟩
      rcases h2.2 with q | ⟨g', cap, cur, q, q2, r⟩
      · exact .inl q
      · exact .inr ⟨g', cap, cur, q, Nat.zero_le _, r⟩
    unfold Oper.wp execOp
    simp only [ho, resolve, invoke, builtin, Sem.run_bind, Sem.run_pure, Result.andThen_ok, List.map_toArray, List.map_cons, List.map_nil, hs, hx, hrun]
    exact h A' c' w' h2' ((kno w).grown h3 (fun k hk => by cases hk)) (fun q hq => ⟨Nat.le_trans hbw (hA' q hq), .inl (hA' q hq)⟩)
theorem kd (w : World) : Kp NoB w w.drew := (kno w).drew
theorem own_none' (X : World) (e k G : Nat) (hG : G = X.heap.size) : OwnR (X.alloc (.cells #[] e)) e k (some ⟨G, 0, none⟩) 0 0 [] := by subst hG; exact own_none X e k
theorem scells_one (l : List Tx) : ∀ u ∈ scells l, u.oneCell' = true := fun u hu => by
  obtain ⟨x, _, rfl⟩ := List.mem_map.1 hu
  rfl
theorem ncells_one (l : List Nat) : ∀ u ∈ ncells l, u.oneCell' = true := fun u hu => by
  obtain ⟨x, _, rfl⟩ := List.mem_map.1 hu
  rfl
theorem empty_no {w : World} {e b n c : Nat} {xs : List Value} (h : OwnR w e 1 (some ⟨b, 0, none⟩) 0 0 []) (h2 : OwnR w e 1 (some ⟨b, 0, none⟩) n c xs) (hn : 0 < n) : False := by
  obtain ⟨_, cur, q, _, q2, _⟩ := OwnR.block h (b := b) rfl
  obtain ⟨_, cur', q', _, q2', q3⟩ := OwnR.block h2 (b := b) rfl
  rw [q] at q'
  simp at q'
  subst q'
  omega

theorem rcopy_leaf {w wL wW TV wV : World} {s n k c1L c1W c1V : Nat} {F : Nat → Prop} {st : DS} {L W V AL AW AV : Option Addr} {cL cW cV : Nat} {xL xW xV : List Value} {lf : Int} (d : Rf w s F st L W V cL cW cV)
    (hx : scells (secL st) = xL ∧ ncells (st.pend.map (·.1)) = xW ∧ scells (st.pend.map (·.2)) = xV ∧ st.pend.length = k) (hn : st.n = n) (hlf : leftV st.lim = lf) (h1 : 1 ≤ n)
    (hL : OwnR wL 9 1 AL n c1L xL) (kL : Kp NoB w wL) (pL : ∀ b, rowB AL = some b → w.heap.size ≤ b) (hW : OwnR wW 3 1 AW k c1W xW) (kLW : Kp NoB wL wW) (pW : ∀ b, rowB AW = some b → w.heap.size ≤ b)
    (hV : OwnR wV 9 1 AV k c1V xV) (kWT : Kp NoB wW TV) (kV0 : Kp NoB TV wV) (lV : ∀ b, rowB AV = some b → w.heap.size ≤ b ∧ (TV.heap.size ≤ b ∨ OwnR TV 9 1 (some ⟨b, 0, none⟩) 0 0 [])) :
    Kp NoB w (wV.alloc (.cells #[.slice AL n c1L, .slice AW k c1W, .slice AV k c1V, .int .i64 lf] 40)) ∧ RefAt (wV.alloc (.cells #[.slice AL n c1L, .slice AW k c1W, .slice AV k c1V, .int .i64 lf] 40)) wV.heap.size (fun x => w.heap.size ≤ x) st := by
  obtain ⟨rfl, rfl, rfl, rfl⟩ := hx
  subst hn hlf
  have kWV : Kp NoB wW wV := kWT.trans kV0 (fun _ _ h => h)
  have kAll : Kp NoB w wV := (kL.trans kLW (fun _ _ h => h)).trans kWV (fun _ _ h => h)
  refine ⟨kAll.alloc _, AL, AW, AV, c1L, c1W, c1V, blk_new wV _, d.l1, ?_, ?_, ?_, fun b h2 h3 => ?_, kAll.size, pL, pW, fun b hb => (lV b hb).1, d.ok⟩
  · exact ((hL.kp kLW (fun _ _ h => h)).kp kWV (fun _ _ h => h)).kp ((kno wV).alloc _) (fun _ _ h => h)
  · exact (hW.kp kWV (fun _ _ h => h)).kp ((kno wV).alloc _) (fun _ _ h => h)
  · exact hV.kp ((kno wV).alloc _) (fun _ _ h => h)
  · rcases (lV b h3).2 with q | q
    · have a1 := OwnR.lt hL h2
      have a2 := kLW.size
      have a3 := kWT.size
      omega
    · have hT := (hL.kp kLW (fun _ _ h => h)).kp kWT (fun _ _ h => h)
      obtain ⟨e, _⟩ := OwnR.block hT h2
      subst e
      exact empty_no q hT h1

set_option maxRecDepth 100000 in
set_option maxHeartbeats 8000000 in
theorem rcopy_disk (s : Nat) (F : Nat → Prop) (st : DS) (w : World) (h : RefAt w s F st) (h1n : 1 ≤ st.n) :
    Calls Try.prog 12 #[.pointer (some ⟨s, 0, none⟩)] w fun e w' => ∃ s', e = .returned (.pointer (some ⟨s', 0, none⟩)) ∧ Kp NoB w w' ∧ RefAt w' s' (fun x => w.heap.size ≤ x) st := by
  obtain ⟨L, W, V, cL, cW, cV, d⟩ := h
  obtain ⟨k, hk⟩ : ∃ k, st.pend.length = k := ⟨_, rfl⟩
  have b0 := d.blk
  rw [hk] at b0
  obtain ⟨⟨c0, c1, c2, c3⟩, -⟩ := rcell b0
  have hs := lt_of_blk b0
  have hn := d.ok.n
  have hk2 : k ≤ 1000 := by have := d.ok.len; have := d.ok.cnt; omega
  obtain ⟨xL, hxL⟩ : ∃ x, scells (secL st) = x := ⟨_, rfl⟩
  obtain ⟨xW, hxW⟩ : ∃ x, ncells (st.pend.map (·.1)) = x := ⟨_, rfl⟩
  obtain ⟨xV, hxV⟩ : ∃ x, scells (st.pend.map (·.2)) = x := ⟨_, rfl⟩
  have OL : Hid (OwnR w 9 1 L st.n cL xL) := by have := d.ownL; rw [hxL] at this; exact this
  have OW : Hid (OwnR w 3 1 W k cW xW) := by have := d.ownW; rw [hxW, hk] at this; exact this
  have OV : Hid (OwnR w 9 1 V k cV xV) := by have := d.ownV; rw [hxV, hk] at this; exact this
  have UL : Hid (∀ u ∈ xL, u.oneCell' = true) := by rw [← hxL]; exact Lib.hid (scells_one _)
  have UW : Hid (∀ u ∈ xW, u.oneCell' = true) := by rw [← hxW]; exact Lib.hid (ncells_one _)
  have UV : Hid (∀ u ∈ xV, u.oneCell' = true) := by rw [← hxV]; exact Lib.hid (scells_one _)
  have D := Lib.hid d
  have HX := Lib.hid (And.intro hxL (And.intro hxW (And.intro hxV hk)))
  obtain ⟨n, hnn⟩ : ∃ n, st.n = n := ⟨_, rfl⟩
  have HN := Lib.hid hnn
  rw [hnn] at c0 hn h1n OL
  obtain ⟨lf, hlf⟩ : ∃ lf, leftV st.lim = lf := ⟨_, rfl⟩
  have HLF := Lib.hid hlf
  rw [hlf] at c3
  rw [hnn, hlf] at b0
  have B0 := Lib.hid b0
  have SK : Hid (∀ T, Kp NoB w T → T.cell? ⟨s, 0, none⟩ = some (.slice L n cL) ∧ T.cell? ⟨s, 1, none⟩ = some (.slice W k cW) ∧ T.cell? ⟨s, 2, none⟩ = some (.slice V k cV) ∧ T.cell? ⟨s, 3, none⟩ = some (.int .i64 lf)) := fun T hT => (rcell (hT.keep B0.out (fun h => h))).1
  clear b0 d hk hxL hxW hxV hnn hlf
  go_enter Try.func12, Try.ntmps12
  go_wp2_with fail
  go_region_held3 (fun w' => w'.cell? ⟨s, 0, none⟩ = some (.slice L n cL) ∧ w'.cell? ⟨s, 1, none⟩ = some (.slice W k cW) ∧ w'.cell? ⟨s, 2, none⟩ = some (.slice V k cV) ∧ w'.cell? ⟨s, 3, none⟩ = some (.int .i64 lf))
    (first
      | exact SV
      | exact SW
      | exact SL
      | exact SK.out _ (by repeat (first | with_reducible exact kno _ | exact kV | exact kW | exact kL | refine Kp.alloc ?_ _ | refine Kp.drew ?_))
      | go_keep)
    (first
      | (refine step_copy2 _ 37 9 1 16 _ Try.underlying37 inf9 (by omega) rfl (by omega) (by rfl) _ _ (by rfl) _ (by rfl) w.heap.size (by first | omega | (simp; done) | (simp; omega) | (have := kW.size; simp; omega) | (have := kW.size; omega) | (have := kL.size; simp; omega) | (have := kL.size; omega)) (Kp.size (F := NoB) (by repeat (first | with_reducible exact kno _ | exact kW | exact kL | refine Kp.alloc ?_ _ | refine Kp.drew ?_))) (by repeat (first | (refine own_none' _ _ _ _ ?_; (first | rfl | (simp; done))) | refine OwnR.kp (F := NoB) ?_ kW0 (fun _ _ h => h) | refine OwnR.kp (F := NoB) ?_ kL0 (fun _ _ h => h) | refine OwnR.kp (F := NoB) ?_ ((kno _).alloc _) (fun _ _ h => h) | refine OwnR.kp (F := NoB) ?_ ((kno _).drew) (fun _ _ h => h))) V k cV xV (by rfl) (OV.out.kp (F := NoB) (by repeat (first | with_reducible exact kno _ | exact kW | exact kL | refine Kp.alloc ?_ _ | refine Kp.drew ?_)) (fun _ _ h => h)) UV.out (by omega) ?_; intro AV c1V wV hV kV0 lV; have kV : Kp NoB w wV := Kp.trans (F := NoB) (by repeat (first | with_reducible exact kno _ | exact kW | exact kL | refine Kp.alloc ?_ _ | refine Kp.drew ?_)) kV0 (fun _ _ h => h); have SV := (rcell (kV.keep B0.out (fun h => h))).1)
      | (refine step_copy2 _ 38 3 1 8 _ Try.underlying38 inf3 (by omega) rfl (by omega) (by rfl) _ _ (by rfl) _ (by rfl) w.heap.size (by first | omega | (simp; done) | (simp; omega) | (have := kL.size; simp; omega) | (have := kL.size; omega)) (Kp.size (F := NoB) (by repeat (first | with_reducible exact kno _ | exact kL | refine Kp.alloc ?_ _ | refine Kp.drew ?_))) (by repeat (first | (refine own_none' _ _ _ _ ?_; (first | rfl | (simp; done))) | refine OwnR.kp (F := NoB) ?_ kL0 (fun _ _ h => h) | refine OwnR.kp (F := NoB) ?_ ((kno _).alloc _) (fun _ _ h => h) | refine OwnR.kp (F := NoB) ?_ ((kno _).drew) (fun _ _ h => h))) W k cW xW (by rfl) (OW.out.kp (F := NoB) (by repeat (first | with_reducible exact kno _ | exact kL | refine Kp.alloc ?_ _ | refine Kp.drew ?_)) (fun _ _ h => h)) UW.out (by omega) ?_; intro AW c1W wW hW kW0 lW; have kW : Kp NoB w wW := Kp.trans (F := NoB) (by repeat (first | with_reducible exact kno _ | exact kL | refine Kp.alloc ?_ _ | refine Kp.drew ?_)) kW0 (fun _ _ h => h); have SW := (rcell (kW.keep B0.out (fun h => h))).1)
      | (refine step_copy2 _ 37 9 1 16 _ Try.underlying37 inf9 (by omega) rfl (by omega) (by rfl) _ _ (by rfl) _ (by rfl) w.heap.size (by first | omega | (simp; done) | (simp; omega)) (Kp.size (F := NoB) (by repeat (first | with_reducible exact kno _ | refine Kp.alloc ?_ _ | refine Kp.drew ?_))) (by repeat (first | (refine own_none' _ _ _ _ ?_; (first | rfl | (simp; done))) | refine OwnR.kp (F := NoB) ?_ ((kno _).alloc _) (fun _ _ h => h) | refine OwnR.kp (F := NoB) ?_ ((kno _).drew) (fun _ _ h => h))) L n cL xL (by rfl) (OL.out.kp (F := NoB) (by repeat (first | with_reducible exact kno _ | refine Kp.alloc ?_ _ | refine Kp.drew ?_)) (fun _ _ h => h)) UL.out (by omega) ?_; intro AL c1L wL hL kL0 lL; have kL : Kp NoB w wL := Kp.trans (F := NoB) (by repeat (first | with_reducible exact kno _ | refine Kp.alloc ?_ _ | refine Kp.drew ?_)) kL0 (fun _ _ h => h); have SL := (rcell (kL.keep B0.out (fun h => h))).1))
  all_goals
    have Z := Lib.hid (rcopy_leaf D.out HX.out HN.out HLF.out h1n hL kL (fun b hb => (lL b hb).1) hW (Kp.trans (F := NoB) (by repeat (first | with_reducible exact kno _ | refine Kp.alloc ?_ _ | refine Kp.drew ?_)) kW0 (fun _ _ h => h)) (fun b hb => (lW b hb).1) hV (by repeat (first | with_reducible exact kno _ | refine Kp.alloc ?_ _ | refine Kp.drew ?_)) kV0 lV)
    clear hL kL0 lL kL SL hW kW0 lW kW SW hV kV0 lV kV SV c0 c1 c2 c3 OL OW OV UL UW UV SK B0
    go_wp2
    go_ret
    exact ⟨_, rfl, Z.out.1, Z.out.2⟩
end Go.Proofs.Ytnfnbbipmempjaa
