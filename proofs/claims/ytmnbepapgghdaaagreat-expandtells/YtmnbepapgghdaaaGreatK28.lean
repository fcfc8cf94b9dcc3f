/-
  Package expand: commands, do.
-/
import Derived.Test.YtmnbepapgghdaaaGreatK26
import Derived.Test.YtmnbepapgghdaaaGreatK27
namespace Go.Proofs.YtmnbepapgghdaaaGreat
open Go.RowKit

theorem zero146 (w : World) : (zeroValue 146).run Tryz.prog w = .ok .nilFunc w := by kernel_rfl
theorem und63 : Tryz.prog.underlying 63 = some (.map 9 146) := by kernel_rfl
theorem cmdF_is : (fun i : By => if i = sInc then some (Value.func (Fn.func 47) #[] #[]) else (fun i : By => if i = sIfdef then some (Value.func (Fn.func 46) #[] #[]) else (fun i : By => if i = sUndef then some (Value.func (Fn.func 45) #[] #[]) else (fun i : By => if i = sDef then some (Value.func (Fn.func 44) #[] #[]) else none) i) i) i) = cmdF := by
  funext i
  unfold cmdF
  by_cases h1 : i = sDef
  · subst h1; rfl
  · by_cases h2 : i = sUndef
    · subst h2; rfl
    · by_cases h3 : i = sIfdef
      · subst h3; rfl
      · by_cases h4 : i = sInc
        · subst h4; rfl
        · simp only [if_neg h1, if_neg h2, if_neg h3, if_neg h4]
set_option maxRecDepth 100000 in
set_option maxHeartbeats 4000000 in
theorem commands_any (w : World) : Calls Tryz.prog 24 #[] w fun en w' => en = .returned (.map (some w.heap.size)) ∧ BM w' w.heap.size 4 cmdF ∧ Below w.heap.size w w' := by
  have b0 := BM.made w
  have hb0 := one_below w (.map #[] 0)
  obtain ⟨w1, r1, b1, g1⟩ := b0.store und63 (r := sDef) (.func (Fn.func 44) #[] #[]) (by decide) (by omega)
  obtain ⟨w2, r2, b2, g2⟩ := b1.store und63 (r := sUndef) (.func (Fn.func 45) #[] #[]) (by decide) (by omega)
  obtain ⟨w3, r3, b3, g3⟩ := b2.store und63 (r := sIfdef) (.func (Fn.func 46) #[] #[]) (by decide) (by omega)
  obtain ⟨w4, r4, b4, g4⟩ := b3.store und63 (r := sInc) (.func (Fn.func 47) #[] #[]) (by decide) (by omega)
  have HB := Lib.hid (below_map (below_map (below_map (below_map hb0 g1 (Nat.le_refl _) (Nat.le_refl _)) g2 (Nat.le_refl _) (Nat.le_refl _)) g3 (Nat.le_refl _) (Nat.le_refl _)) g4 (Nat.le_refl _) (Nat.le_refl _))
  have HM := Lib.hid (show BM w4 w.heap.size 4 cmdF by rw [← cmdF_is]; exact b4)
  unfold sDef at r1
  unfold sUndef at r2
  unfold sIfdef at r3
  unfold sInc at r4
  clear b0 b1 b2 b3 b4 g1 g2 g3 g4 hb0
  have hmk : ∀ w, (Instr.makeMap 63 none).run Tryz.prog w = .ok (.map (some w.heap.size)) (w.alloc (.map #[] 0)) := fun _ => rfl
  go_enter Tryz.func24, Tryz.ntmps24
  go_wp2
  go_ret
  exact ⟨rfl, HM.out, HB.out⟩
/-- What a token does. -/
def doE (ok : By → Bool) (F : By → Option By) (most : Nat) (e : Ex) (t : Tok) : Ex := match (if t.1 = 4 then cmdE ok F most e t.2 else none) with
  | some e2 => e2
  | none => if most ≤ e.out.length then Ex.note (stopE e) 3 [] else { e with out := e.out ++ [t] }
/-- What all commands ask for. -/
structure Ask (k : Xk) (e : Ex) : Prop where
  pt : PTe e
  good : Good e.ms
  len : e.inp.length ≤ 1000
  bods : ∀ m ∈ e.ms, m.2.2.length ≤ 1000
  reads : e.reads.length ≤ 32
  out : e.out.length ≤ 100000
  most : k.most ≤ 1000
  fuel : k.fuel ≤ 1000
theorem put_noted (most : Nat) (e : Ex) (t : Tok) : noted (putX most e t) (nameF (putO most e) [] t.2) (putO most e) = if most ≤ e.out.length then Ex.note (stopE e) 3 [] else { e with out := e.out ++ [t] } := by
  unfold putX putO
  split <;> rfl
theorem putO_ok (most : Nat) (e : Ex) : errO (putO most e) := by
  unfold putO
  split
  · exact err_some (.inr (.inl rfl))
  · exact err_none
theorem putO_ne (most : Nat) (e : Ex) : putO most e ≠ some 10 := by
  unfold putO
  split
  · decide
  · exact fun h => by cases h
theorem CmdPost.up {k : Xk} {w : World} {n m : Nat} {s : By} {g : Ex} {en : Ending} {w' : World} (h : CmdPost k w n s g en w') (hm : n ≤ m) : CmdPost k w m s g en w' := by
  obtain ⟨e1, nm, o, h1, h2, h3, ⟨s1, h4, h5⟩, h6, h7⟩ := h
  exact ⟨e1, nm, o, h1, h2, h3, ⟨s1, h4, Nat.le_trans h5 hm⟩, h6, h7⟩
set_option maxRecDepth 100000 in
set_option maxHeartbeats 4000000 in
/-- A known command. -/
theorem do_cmd (k : Xk) (n : Nat) (j : Nat) (hent : ∀ args w, (callFunc j args).run Tryz.prog w = .ok (.enter j args) w) (s : By) (G : Ex) (w : World) (e : Ex) (h : XW k w e n) (hs : s.length ≤ 4000) (hc : cmdF s = some (.func (Fn.func j) #[] #[]))
    (C : ∀ W, Below k.base w W → XW k W e n → Calls Tryz.prog j #[.pointer (some ⟨k.p, 0, none⟩)] W (CmdPost k W (n + 1) s G)) :
    Calls Tryz.prog 51 #[.pointer (some ⟨k.p, 0, none⟩), .agg #[.int .i64 4, .string ⟨s.toArray⟩]] w (CmdPost k w (n + 1) s G) := by
  have HZ := Lib.hid (show k.base ≤ w.heap.size by have := h.size; omega)
  obtain ⟨x, hx, hsn⟩ := h
  have b1 := one_below w (.cells #[.int .i64 4, .string ⟨s.toArray⟩] 89)
  have g0 := new_fst w (.int .i64 4) (.string ⟨s.toArray⟩) 89
  have g1 := new_snd w (.int .i64 4) (.string ⟨s.toArray⟩) 89
  have hx1 := hx.below b1
  have HB1 := Lib.hid (b1.mono HZ.out)
  obtain ⟨w1, hw1⟩ : ∃ w1, w.alloc (.cells #[.int .i64 4, .string ⟨s.toArray⟩] 89) = w1 := ⟨_, rfl⟩
  rw [hw1] at hx1 HB1 g0 g1
  have c3 : w1.cell? ⟨k.p, 3, none⟩ = some (.map (some k.cb)) := hx1.cell 3
  have hlook := fun q => (hx1.below (drewN_below w1 q)).cm.look (s := s) und63 (zero146 _) (by omega)
  rw [hc] at hlook
  simp only [Option.getD_some, Option.isSome_some] at hlook
  have HX1 := Lib.hid hx1
  have HN := Lib.hid hsn
  have HC := Lib.hid C
  have HBS := Lib.hid (fun q => (show Below w.heap.size w (w1.drewN q) by rw [← hw1]; exact bch (one_below _ _) (drewN_below _ q)))
  clear hx hx1 b1 hsn C
  go_enter Tryz.func51, Tryz.ntmps51
  go_wp2_with fail
  go_quiet (fail)
  go_wp2_with fail
  have HBq := Lib.hid (HB1.out.trans ((drewN_below w1 nq).mono (show k.base ≤ w1.heap.size by have := HB1.out.size; have := HZ.out; omega)))
  refine (HC.out (w1.drewN nq) HBq.out ⟨x, HX1.out.below (drewN_below w1 nq), HN.out⟩).mono ?_
  rintro en w2 ⟨e1, nm, o, rfl, ho, hb2, hx2, he, h10⟩
  have HH := Lib.hid (And.intro ho (And.intro (HBq.out.trans hb2) (And.intro hx2 (And.intro he fun h => bch (HBS.out nq) (h10 h)))))
  clear ho hb2 hx2 he h10
  go_wp2
  go_ret2
  obtain ⟨q1, q2, q3, q4, q5⟩ := HH.out
  exact ⟨e1, nm, o, rfl, q1, q2, q3, q4, q5⟩
set_option maxRecDepth 100000 in
set_option maxHeartbeats 4000000 in
/-- No command. -/
theorem do_put (k : Xk) (n : Nat) (t : Tok) (w : World) (e : Ex) (h : XW k w e n) (ha : Ask k e) (h4 : t.1 ≠ 4) :
    Calls Tryz.prog 51 #[.pointer (some ⟨k.p, 0, none⟩), .agg #[.int .i64 t.1, .string ⟨t.2.toArray⟩]] w (CmdPost k w n t.2 (if k.most ≤ e.out.length then Ex.note (stopE e) 3 [] else { e with out := e.out ++ [t] })) := by
  have HZ := Lib.hid (show k.base ≤ w.heap.size by have := h.size; omega)
  have b1 := one_below w (.cells #[.int .i64 t.1, .string ⟨t.2.toArray⟩] 89)
  have g0 := new_fst w (.int .i64 t.1) (.string ⟨t.2.toArray⟩) 89
  have g1 := new_snd w (.int .i64 t.1) (.string ⟨t.2.toArray⟩) 89
  have hx1 := h.below b1
  have HB1 := Lib.hid (b1.mono HZ.out)
  have C := Lib.hid (xput_any k e n t _ hx1 ha.out)
  have HP0 := put_noted k.most e t
  obtain ⟨G, hG⟩ : ∃ G, (if k.most ≤ e.out.length then Ex.note (stopE e) 3 [] else { e with out := e.out ++ [t] }) = G := ⟨_, rfl⟩
  rw [hG] at HP0 ⊢
  have HP := Lib.hid HP0
  have HO := Lib.hid (putO_ok k.most e)
  have q : (t.1 == 4) = false := by simpa using h4
  clear h hx1 b1 h4 ha HP0 hG
  go_enter Tryz.func51, Tryz.ntmps51
  go_wp2_with fail
  refine C.out.mono ?_
  rintro en w2 ⟨rfl, hb2, hx2⟩
  have HB2 := Lib.hid (HB1.out.trans hb2)
  have HX2 := Lib.hid hx2
  clear hb2 hx2
  go_wp2
  go_ret2
  exact ⟨_, [], _, rfl, HO.out, HB2.out, HX2.out, HP.out, fun h => absurd h (putO_ne _ _)⟩
theorem getM_bare {ms : List Ml} {n : By} {v : Mv} (h : getL ms n = some v) : getM (bares ms) n = (n, v.1, []) := getM_some (by rw [get_bare, h]; rfl)
theorem getM_bare0 {ms : List Ml} {n : By} (h : getL ms n = none) : getM (bares ms) n = ([], 0, []) := getM_none (by rw [has_bare, hasL_get, h]; rfl)
theorem cell_but2 {w w' : World} {p : Nat} {X : Option Nat} {a : Addr} {v : Value} (h : w.cell? a = some v) (hk : But2 p X w w') (hp : a.block ≠ p) (hX : some a.block ≠ X) : w'.cell? a = some v := by
  have hl := World.block_lt_of_cell? w _ h
  have hg : w'.heap[a.block]? = w.heap[a.block]? := hk a.block hl hp hX
  rw [← h]; simp only [World.cell?, hg]
/-- A new block is neither its own, nor the row's of tokens to come. -/
theorem far_row {k : Xk} {w : World} {s : Xs} {e : Ex} (h : XR k w s e) {b : Nat} (hb : w.heap.size ≤ b) : b ≠ k.p ∧ some b ≠ obA s.TA :=
  ⟨by have := lt_of_blk h.blk; omega, fun q => by have := (World.ownsRow.lt h.toks b (by rw [obA_own]; exact q.symm)).2; omega⟩
set_option maxRecDepth 100000 in
set_option maxHeartbeats 8000000 in
/-- A macro's name, or a name that is none. -/
theorem do_call (k : Xk) (n : Nat) (s : By) (w : World) (e : Ex) (h : XW k w e n) (ha : Ask k e) (hs : s.length ≤ 4000) (hc : cmdF s = none) (G : Ex)
    (hG : (match getL e.ms s with | some v => callE k.most e s v | none => if k.most ≤ e.out.length then Ex.note (stopE e) 3 [] else { e with out := e.out ++ [((4 : Int), s)] }) = G) :
    Calls Tryz.prog 51 #[.pointer (some ⟨k.p, 0, none⟩), .agg #[.int .i64 4, .string ⟨s.toArray⟩]] w (CmdPost k w n s G) := by
  have HZ := Lib.hid (show k.base ≤ w.heap.size by have := h.size; omega)
  obtain ⟨x, hx, hsn⟩ := h
  have b1 := one_below w (.cells #[.int .i64 4, .string ⟨s.toArray⟩] 89)
  have g0 := new_fst w (.int .i64 4) (.string ⟨s.toArray⟩) 89
  have g1 := new_snd w (.int .i64 4) (.string ⟨s.toArray⟩) 89
  have hx1 := hx.below b1
  have HB1 := Lib.hid (b1.mono HZ.out)
  obtain ⟨w1, hw1⟩ : ∃ w1, w.alloc (.cells #[.int .i64 4, .string ⟨s.toArray⟩] 89) = w1 := ⟨_, rfl⟩
  have hz1 : w1.heap.size = w.heap.size + 1 := by rw [← hw1]; simp
  rw [hw1] at hx1 HB1 g0 g1
  have c3 : w1.cell? ⟨k.p, 3, none⟩ = some (.map (some k.cb)) := hx1.cell 3
  have hlook := fun q => (hx1.below (drewN_below w1 q)).cm.look (s := s) und63 (zero146 _) (by omega)
  rw [hc] at hlook
  simp only [Option.getD_none, Option.isSome_none] at hlook
  have HX1 := Lib.hid (fun q => hx1.below (drewN_below w1 q))
  have HBq := Lib.hid (fun q => HB1.out.trans ((drewN_below w1 q).mono (show k.base ≤ w1.heap.size by have := HB1.out.size; have := HZ.out; omega)))
  have HAq := Lib.hid (fun q => (show Below w.heap.size w (w1.drewN q) by rw [← hw1]; exact bch (one_below _ _) (drewN_below _ q)))
  have HN := Lib.hid hsn
  have HG := Lib.hid hG
  have HA := Lib.hid ha
  have c4 : ∀ q, (w1.drewN q).cell? ⟨k.p, 4, none⟩ = some (.slice x.MA (bares e.ms).length x.mc) := fun q => by rw [bares_len]; exact (hx1.below (drewN_below w1 q)).cell 4
  have C4 := Lib.hid c4
  have C2 := fun W (hW : XR k W x e) => get7_any x.MA x.mc (bares e.ms) s W hW.ms (by rw [bares_len]; have := ha.good.2.1; omega) (Lib.hid (good_bare ha.good).1) (Lib.hid (bod_bare _))
  simp only [has_bare] at C2
  simp only [hasL_get] at C2
  have G0 := Lib.hid g0
  have G1 := Lib.hid g1
  clear c4 hx hsn hG b1
  cases hv : getL e.ms s with
  | none =>
    rw [hv] at HG
    have HG : Hid ((if k.most ≤ e.out.length then Ex.note (stopE e) 3 [] else { e with out := e.out ++ [((4 : Int), s)] }) = G) := HG
    simp only [hv, Option.isSome_none, getM_bare0 hv] at C2
    have C2 := Lib.hid C2
    have CP := Lib.hid (fun W (hW : XW k W e n) => xput_any k e n (4, s) W hW HA.out.out)
    have HP := Lib.hid ((put_noted k.most e (4, s)).trans HG.out)
    have HO := Lib.hid (putO_ok k.most e)
    clear hv hx1 ha
    go_enter Tryz.func51, Tryz.ntmps51
    go_wp2_with fail
    go_quiet (fail)
    go_wp2_with fail
    have d4 := C4.out (nq + 1)
    have d1 : (w1.drewN (nq + 1)).cell? ⟨w.heap.size, 1, none⟩ = some (.string ⟨s.toArray⟩) := G1.out
    have xa := HX1.out (nq + 1)
    have G0q : (w1.drewN (nq + 1)).cell? ⟨w.heap.size, 0, none⟩ = some (.int .i64 4) := G0.out
    have HXA := Lib.hid xa
    have HBA := Lib.hid (HBq.out (nq + 1))
    have HD4 := Lib.hid d4
    have HD1 := Lib.hid d1
    have HD0 := Lib.hid G0q
    have HZ1 := Lib.hid (show (w1.drewN (nq + 1)).heap.size = w.heap.size + 1 from hz1)
    have ob := one_below (w1.drewN (nq + 1)) (.cells #[.string ⟨#[]⟩, .int .i64 0, .slice none 0 0] 137)
    have e4 := cell_below ob HD4.out
    have e1 := cell_below ob HD1.out
    have HXB := Lib.hid (HXA.out.below ob)
    have HOB := Lib.hid ob
    have hnb := heap_alloc_new (w1.drewN (nq + 1)) (.cells #[.string ⟨#[]⟩, .int .i64 0, .slice none 0 0] 137)
    rw [HZ1.out] at hnb
    have HNB := Lib.hid hnb
    clear hnb
    clear xa G0q ob
    go_region_law (first
      | (refine step_call (w1.drewN (nq + 1)) (by rfl) 76 _ _ (by rfl) #[.slice x.MA (bares e.ms).length x.mc, .string ⟨s.toArray⟩] (by rfl) (enter76 _ _) (R := fun z w' => ∃ B d, z = .tuple #[.agg #[.string ⟨#[]⟩, .int .i64 0, .slice B 0 d], .bool false] ∧ Below (w1.drewN (nq + 1)).heap.size (w1.drewN (nq + 1)) w') ((C2.out (w1.drewN (nq + 1)) HXA.out).mono fun _ _ ⟨B, d, q1, q2, q3⟩ => ⟨_, q1, B, d, rfl, q3⟩) ?_
         rintro z w2 ⟨B, d, rfl, hb2⟩
         have HB2 := Lib.hid hb2
         have HW := Lib.hid (bch hb2 (one_below w2 (.cells #[.string ⟨#[]⟩, .int .i64 0, .slice B 0 d] 137)))
         have wa0 := cell_below HW.out HD0.out
         have wa1 := cell_below HW.out HD1.out
         obtain ⟨mc0, mc1, mc2⟩ := new_three w2 (.string ⟨#[]⟩) (.int .i64 0) (.slice B 0 d) 137
         have HMB := Lib.hid (hb2.size))
      | (refine step_call ((w1.drewN (nq + 1)).alloc (.cells #[.string ⟨#[]⟩, .int .i64 0, .slice none 0 0] 137)) (by rfl) 76 _ _ (by rfl) #[.slice x.MA (bares e.ms).length x.mc, .string ⟨s.toArray⟩] (by rfl) (enter76 _ _) (R := fun z w' => ∃ B d, z = .tuple #[.agg #[.string ⟨#[]⟩, .int .i64 0, .slice B 0 d], .bool false] ∧ Below ((w1.drewN (nq + 1)).alloc (.cells #[.string ⟨#[]⟩, .int .i64 0, .slice none 0 0] 137)).heap.size ((w1.drewN (nq + 1)).alloc (.cells #[.string ⟨#[]⟩, .int .i64 0, .slice none 0 0] 137)) w') ((C2.out _ HXB.out).mono fun _ _ ⟨B, d, q1, q2, q3⟩ => ⟨_, q1, B, d, rfl, q3⟩) ?_
         rintro z w2 ⟨B, d, rfl, hb2⟩
         have HB2 := Lib.hid (bch HOB.out hb2)
         have hk := blk_below hb2 HNB.out
         have k0 : w2.cell? ⟨w.heap.size + 1, 0, none⟩ = some (.string ⟨#[]⟩) := cell_of hk 0
         have k1 : w2.cell? ⟨w.heap.size + 1, 1, none⟩ = some (.int .i64 0) := cell_of hk 1
         have k2 : w2.cell? ⟨w.heap.size + 1, 2, none⟩ = some (.slice none 0 0) := cell_of hk 2
         have kf0 := frozen_of hk 0
         have kf1 := frozen_of hk 1
         have kf2 := frozen_of hk 2
         have hw3 : Below (w1.drewN (nq + 1)).heap.size (w1.drewN (nq + 1)) (((w2.setCell ⟨w.heap.size + 1, 0, none⟩ (.string ⟨#[]⟩)).setCell ⟨w.heap.size + 1, 1, none⟩ (.int .i64 0)).setCell ⟨w.heap.size + 1, 2, none⟩ (.slice B 0 d)) :=
           ((HB2.out.setCell (p := ⟨w.heap.size + 1, 0, none⟩) (Nat.le_of_eq HZ1.out) _).setCell (p := ⟨w.heap.size + 1, 1, none⟩) (Nat.le_of_eq HZ1.out) _).setCell (p := ⟨w.heap.size + 1, 2, none⟩) (Nat.le_of_eq HZ1.out) _
         have HW := Lib.hid hw3
         have wa0 := cell_below HW.out HD0.out
         have wa1 := cell_below HW.out HD1.out
         have hk3 := blk_set (blk_set (blk_set hk 0 (.string ⟨#[]⟩)) 1 (.int .i64 0)) 2 (.slice B 0 d)
         have mc0 := (cell_of hk3 0).trans rfl
         have mc1 := (cell_of hk3 1).trans rfl
         have mc2 := (cell_of hk3 2).trans rfl
         have HMB := Lib.hid (Nat.le_of_eq HZ1.out)
         clear hw3 hk3 hk))
    all_goals
      have HX := Lib.hid (HXA.out.below HW.out)
      have HBW := Lib.hid (HBA.out.trans (HW.out.mono (show k.base ≤ (w1.drewN (nq + 1)).heap.size by rw [HZ1.out]; have := HZ.out; omega)))
      go_wp2_with fail
      refine (CP.out _ ⟨x, HX.out, HN.out⟩).mono ?_
      rintro en w4 ⟨rfl, hb4, hx4⟩
      have HB4 := Lib.hid (HBW.out.trans hb4)
      have HX4 := Lib.hid hx4
      clear hb4 hx4
      go_wp2
      go_ret2
      exact ⟨_, [], _, rfl, HO.out, HB4.out, HX4.out, HP.out, fun h => absurd h (putO_ne _ _)⟩
  | some v =>
    rw [hv] at HG
    have HG : Hid (callE k.most e s v = G) := HG
    simp only [hv, Option.isSome_some, getM_bare hv] at C2
    have C2 := Lib.hid C2
    have hgd := ha.good.2.2 (s, v) (getL_mem hv)
    have hpar : 0 ≤ v.1 ∧ v.1 ≤ 9 := by
      unfold wrE at hgd
      split at hgd
      · cases hgd
      · split at hgd
        · cases hgd
        · rename_i h9
          have h9' : ¬ (v.1 < 0 ∨ 9 < v.1) := h9
          omega
    have HV := Lib.hid hv
    have CC := Lib.hid (fun W (t : Xs) (B : Option Addr) (d : Nat) (hW : XR k W t e) (hN : t.N ≤ n) => xcall_s k e n s v B d W t hW hN HV.out hpar ha.len ha.most ha.fuel (body_pt ha.pt HV.out) (ha.bods (s, v) (getL_mem HV.out)) hs)
    clear hv hx1 ha hgd
    go_enter Tryz.func51, Tryz.ntmps51
    go_wp2_with fail
    go_quiet (fail)
    go_wp2_with fail
    have d4 := C4.out (nq + 1)
    have d1 : (w1.drewN (nq + 1)).cell? ⟨w.heap.size, 1, none⟩ = some (.string ⟨s.toArray⟩) := G1.out
    have xa := HX1.out (nq + 1)
    have G0q : (w1.drewN (nq + 1)).cell? ⟨w.heap.size, 0, none⟩ = some (.int .i64 4) := G0.out
    have HXA := Lib.hid xa
    have HBA := Lib.hid (HBq.out (nq + 1))
    have HD4 := Lib.hid d4
    have HD1 := Lib.hid d1
    have HD0 := Lib.hid G0q
    have HZ1 := Lib.hid (show (w1.drewN (nq + 1)).heap.size = w.heap.size + 1 from hz1)
    have ob := one_below (w1.drewN (nq + 1)) (.cells #[.string ⟨#[]⟩, .int .i64 0, .slice none 0 0] 137)
    have e4 := cell_below ob HD4.out
    have e1 := cell_below ob HD1.out
    have HXB := Lib.hid (HXA.out.below ob)
    have HOB := Lib.hid ob
    have hnb := heap_alloc_new (w1.drewN (nq + 1)) (.cells #[.string ⟨#[]⟩, .int .i64 0, .slice none 0 0] 137)
    rw [HZ1.out] at hnb
    have HNB := Lib.hid hnb
    clear hnb
    clear xa G0q ob
    go_region_law (first
      | (refine step_call (w1.drewN (nq + 1)) (by rfl) 76 _ _ (by rfl) #[.slice x.MA (bares e.ms).length x.mc, .string ⟨s.toArray⟩] (by rfl) (enter76 _ _) (R := fun z w' => ∃ B d, z = .tuple #[.agg #[.string ⟨s.toArray⟩, .int .i64 v.1, .slice B 0 d], .bool true] ∧ Below (w1.drewN (nq + 1)).heap.size (w1.drewN (nq + 1)) w') ((C2.out (w1.drewN (nq + 1)) HXA.out).mono fun _ _ ⟨B, d, q1, q2, q3⟩ => ⟨_, q1, B, d, rfl, q3⟩) ?_
         rintro z w2 ⟨B, d, rfl, hb2⟩
         have HB2 := Lib.hid hb2
         have HW := Lib.hid (bch hb2 (one_below w2 (.cells #[.string ⟨s.toArray⟩, .int .i64 v.1, .slice B 0 d] 137)))
         have wa0 := cell_below HW.out HD0.out
         have wa1 := cell_below HW.out HD1.out
         obtain ⟨mc0, mc1, mc2⟩ := new_three w2 (.string ⟨s.toArray⟩) (.int .i64 v.1) (.slice B 0 d) 137
         have HMB := Lib.hid (hb2.size))
      | (refine step_call ((w1.drewN (nq + 1)).alloc (.cells #[.string ⟨#[]⟩, .int .i64 0, .slice none 0 0] 137)) (by rfl) 76 _ _ (by rfl) #[.slice x.MA (bares e.ms).length x.mc, .string ⟨s.toArray⟩] (by rfl) (enter76 _ _) (R := fun z w' => ∃ B d, z = .tuple #[.agg #[.string ⟨s.toArray⟩, .int .i64 v.1, .slice B 0 d], .bool true] ∧ Below ((w1.drewN (nq + 1)).alloc (.cells #[.string ⟨#[]⟩, .int .i64 0, .slice none 0 0] 137)).heap.size ((w1.drewN (nq + 1)).alloc (.cells #[.string ⟨#[]⟩, .int .i64 0, .slice none 0 0] 137)) w') ((C2.out _ HXB.out).mono fun _ _ ⟨B, d, q1, q2, q3⟩ => ⟨_, q1, B, d, rfl, q3⟩) ?_
         rintro z w2 ⟨B, d, rfl, hb2⟩
         have HB2 := Lib.hid (bch HOB.out hb2)
         have hk := blk_below hb2 HNB.out
         have k0 : w2.cell? ⟨w.heap.size + 1, 0, none⟩ = some (.string ⟨#[]⟩) := cell_of hk 0
         have k1 : w2.cell? ⟨w.heap.size + 1, 1, none⟩ = some (.int .i64 0) := cell_of hk 1
         have k2 : w2.cell? ⟨w.heap.size + 1, 2, none⟩ = some (.slice none 0 0) := cell_of hk 2
         have kf0 := frozen_of hk 0
         have kf1 := frozen_of hk 1
         have kf2 := frozen_of hk 2
         have hw3 : Below (w1.drewN (nq + 1)).heap.size (w1.drewN (nq + 1)) (((w2.setCell ⟨w.heap.size + 1, 0, none⟩ (.string ⟨s.toArray⟩)).setCell ⟨w.heap.size + 1, 1, none⟩ (.int .i64 v.1)).setCell ⟨w.heap.size + 1, 2, none⟩ (.slice B 0 d)) :=
           ((HB2.out.setCell (p := ⟨w.heap.size + 1, 0, none⟩) (Nat.le_of_eq HZ1.out) _).setCell (p := ⟨w.heap.size + 1, 1, none⟩) (Nat.le_of_eq HZ1.out) _).setCell (p := ⟨w.heap.size + 1, 2, none⟩) (Nat.le_of_eq HZ1.out) _
         have HW := Lib.hid hw3
         have wa0 := cell_below HW.out HD0.out
         have wa1 := cell_below HW.out HD1.out
         have hk3 := blk_set (blk_set (blk_set hk 0 (.string ⟨s.toArray⟩)) 1 (.int .i64 v.1)) 2 (.slice B 0 d)
         have mc0 := (cell_of hk3 0).trans rfl
         have mc1 := (cell_of hk3 1).trans rfl
         have mc2 := (cell_of hk3 2).trans rfl
         have HMB := Lib.hid (Nat.le_of_eq HZ1.out)
         clear hw3 hk3 hk))
    all_goals
      have HXd := Lib.hid (HXA.out.below (bch HW.out (below_drew _)))
      have HBd := Lib.hid (HBA.out.trans ((bch HW.out (below_drew _)).mono (show k.base ≤ (w1.drewN (nq + 1)).heap.size by rw [HZ1.out]; have := HZ.out; omega)))
      have HSd := Lib.hid (bch (HAq.out (nq + 1)) (bch HW.out (below_drew _)))
      have HTA := Lib.hid (far_row HXA.out HMB.out)
      have MC0 := Lib.hid mc0
      clear hb2
      go_wp2_with fail
      go_region_law (refine step_call _ (by rfl) 81 _ _ (by rfl) #[.pointer (some ⟨k.p, 0, none⟩), .agg #[.string ⟨s.toArray⟩, .int .i64 v.1, .slice B 0 d]] (by rfl) (enter81 _ _) (R := fun z w' => ∃ e1 o, z = errV o ∧ errO o ∧ Below k.base w w' ∧ XW k w' e1 n ∧ noted e1 s o = G ∧ (o = some 10 → Below w.heap.size w w') ∧ w'.cell? ⟨_, 0, none⟩ = some (.string ⟨s.toArray⟩)) ((CC.out _ x B d HXd.out HN.out).mono fun _ _ ⟨⟨e1, o, q1, q2, q3, q4, q5, q6⟩, qb⟩ => ⟨_, q1, e1, o, rfl, q2, HBd.out.trans q3, q4, q5.trans HG.out, fun h => bch HSd.out (q6 h), cell_but2 MC0.out qb HTA.out.1 HTA.out.2⟩) ?_
                     rintro z w4 ⟨e1, o, rfl, ho, hb4, hx4, he, h10, mn⟩
                     have HH := Lib.hid (And.intro ho (And.intro hb4 (And.intro hx4 (And.intro he h10))))
                     clear ho hb4 hx4 he h10)
      all_goals
        go_wp2
        go_ret2
        obtain ⟨q1, q2, q3, q4, q5⟩ := HH.out
        exact ⟨e1, s, o, rfl, q1, q2, q3, by rw [← q4]; unfold nameF; rw [ite_self], q5⟩
end Go.Proofs.YtmnbepapgghdaaaGreat
