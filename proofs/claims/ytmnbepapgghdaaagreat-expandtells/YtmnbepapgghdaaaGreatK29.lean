/-
  Package expand: do, whole; step.
-/
import Derived.Test.YtmnbepapgghdaaaGreatK28
namespace Go.Proofs.YtmnbepapgghdaaaGreat
open Go.RowKit

theorem enter44 (args : Array Value) (w : World) : (callFunc 44 args).run Tryz.prog w = .ok (.enter 44 args) w := enter_of Tryz.func44 (by kernel_rfl) (by kernel_rfl) args w
theorem enter45 (args : Array Value) (w : World) : (callFunc 45 args).run Tryz.prog w = .ok (.enter 45 args) w := enter_of Tryz.func45 (by kernel_rfl) (by kernel_rfl) args w
theorem enter46 (args : Array Value) (w : World) : (callFunc 46 args).run Tryz.prog w = .ok (.enter 46 args) w := enter_of Tryz.func46 (by kernel_rfl) (by kernel_rfl) args w
theorem enter47 (args : Array Value) (w : World) : (callFunc 47 args).run Tryz.prog w = .ok (.enter 47 args) w := enter_of Tryz.func47 (by kernel_rfl) (by kernel_rfl) args w
theorem doE_cmd {ok : By → Bool} {F : By → Option By} {most : Nat} {e e2 : Ex} {s : By} (h : cmdE ok F most e s = some e2) : doE ok F most e (4, s) = e2 := by
  unfold doE
  rw [if_pos rfl, h]
theorem do_any (k : Xk) (n : Nat) (fs : List Fl.Fl) (t : Tok) (w : World) (e : Ex) (h : XW k w e n) (ha : Ask k e) (hF : Fls k w fs) (hL : Lo k fs) (hn : n ≤ 1000000) (ht : t.2.length ≤ 4000) :
    Calls Tryz.prog 51 #[.pointer (some ⟨k.p, 0, none⟩), .agg #[.int .i64 t.1, .string ⟨t.2.toArray⟩]] w (CmdPost k w (n + 1) t.2 (doE Fl.nmOk (flF fs) k.most e t)) := by
  by_cases h4 : t.1 = 4
  · obtain ⟨t1, s⟩ := t
    simp only at h4 ht
    subst h4
    by_cases h1 : s = sDef
    · subst h1
      rw [doE_cmd (e2 := defE e) (by unfold cmdE; rw [if_pos rfl])]
      exact do_cmd k n 44 enter44 sDef _ w e h (by decide) rfl fun W hb hW => xdefine_any k e n W hW hn ha.len ha.good ha.pt.1
    · by_cases h2 : s = sUndef
      · subst h2
        rw [doE_cmd (e2 := undefE e) (by unfold cmdE; rw [if_neg (by decide), if_pos rfl])]
        exact do_cmd k n 45 enter45 sUndef _ w e h (by decide) rfl fun W hb hW => (xundef_any k e n W hW ha.len ha.good ha.pt.1).mono fun _ _ q => q.up (Nat.le_succ n)
      · by_cases h3 : s = sIfdef
        · subst h3
          rw [doE_cmd (e2 := ifdefE e) (by unfold cmdE; rw [if_neg (by decide), if_neg (by decide), if_pos rfl])]
          exact do_cmd k n 46 enter46 sIfdef _ w e h (by decide) rfl fun W hb hW => (xchoose_any k e n W hW ha.len ha.good).mono fun _ _ q => q.up (Nat.le_succ n)
        · by_cases h5 : s = sInc
          · subst h5
            rw [doE_cmd (e2 := incE Fl.nmOk (flF fs) k.most e) (by unfold cmdE; rw [if_neg (by decide), if_neg (by decide), if_neg (by decide), if_pos rfl])]
            exact do_cmd k n 47 enter47 sInc _ w e h (by decide) rfl fun W hb hW => (xinclude_any k e n fs W hW (hF.low hL hb) hL ha.reads ha.len ha.most ha.fuel ha.pt.1).mono fun _ _ q => q.up (Nat.le_succ n)
          · refine (do_call k n s w e h ha ht (by unfold cmdF; rw [if_neg h1, if_neg h2, if_neg h3, if_neg h5]) _ ?_).mono fun _ _ q => q.up (Nat.le_succ n)
            have hc : cmdE Fl.nmOk (flF fs) k.most e s = (getL e.ms s).map (callE k.most e s) := by unfold cmdE; rw [if_neg h1, if_neg h2, if_neg h3, if_neg h5]
            unfold doE
            rw [if_pos rfl, hc]
            cases getL e.ms s <;> rfl
  · have : doE Fl.nmOk (flF fs) k.most e t = if k.most ≤ e.out.length then Ex.note (stopE e) 3 [] else { e with out := e.out ++ [t] } := by unfold doE; rw [if_neg h4]
    rw [this]
    exact (do_put k n t w e h ha h4).mono fun _ _ q => q.up (Nat.le_succ n)
/-- The first token is taken away. -/
theorem take_XR {k : Xk} {w : World} {s : Xs} {e : Ex} {t : Tok} {r : List Tok} (h : XR k w s e) (hi : e.inp = t :: r) : XR k (w.setCell ⟨k.p, 7, none⟩ (.int .i64 ((s.at_ : Int) + 1))) { s with at_ := s.at_ + 1 } { e with inp := r } := by
  have hal := h.atl
  have hil : e.inp.length = s.full.length - s.at_ := by rw [← h.inp, List.length_drop]
  rw [hi] at hil
  simp only [List.length_cons] at hil
  refine h.setP 7 _ (a := s.at_ + 1) (e' := { e with inp := r }) ?_ (by omega) (by show s.full.drop (s.at_ + 1) = r; have := h.inp; rw [hi] at this; rw [← List.drop_drop, this]; rfl) rfl rfl rfl rfl rfl
  have : ((s.at_ + 1 : Nat) : Int) = (s.at_ : Int) + 1 := by omega
  unfold xC
  rw [this]
  rfl
theorem first_at {k : Xk} {w : World} {s : Xs} {e : Ex} {t : Tok} {r : List Tok} (h : XR k w s e) (hi : e.inp = t :: r) : s.full[s.at_]? = some t := by
  have : (s.full.drop s.at_)[0]? = some t := by rw [h.inp, hi]; rfl
  rwa [List.getElem?_drop] at this
theorem noted_len (e : Ex) (nm : By) (o : Option Int) : e.notes.length ≤ (noted e nm o).notes.length := by
  cases o with
  | none => exact Nat.le_refl _
  | some k => show _ ≤ (e.notes ++ [(k, nm)]).length; simp
theorem doE_note1 (ok : By → Bool) (F : By → Option By) (most : Nat) (e : Ex) (t : Tok) : (doE ok F most e t).notes.length ≤ e.notes.length + 1 := by
  unfold doE
  split
  · rename_i e2 h
    split at h
    · exact cmd_note1 h
    · cases h
  · split
    · show (e.notes ++ [(3, [])]).length ≤ _; simp
    · exact Nat.le_succ _
theorem step_do {ok : By → Bool} {F : By → Option By} {most : Nat} {e : Ex} {t : Tok} {r : List Tok} (hi : e.inp = t :: r) : stepL ok F most e = doE ok F most { e with inp := r } t := by
  rw [step_some hi]
  unfold doE
  rfl
theorem Ask.tail {k : Xk} {e : Ex} {t : Tok} {r : List Tok} (h : Ask k e) (hi : e.inp = t :: r) : Ask k { e with inp := r } :=
  ⟨⟨fun x hx => h.pt.1 x (by rw [hi]; simp [show x ∈ r from hx]), h.pt.2⟩, h.good, by have := h.len; rw [hi] at this; simp at this; show r.length ≤ _; omega, h.bods, h.reads, h.out, h.most, h.fuel⟩
set_option maxRecDepth 100000 in
set_option maxHeartbeats 4000000 in
theorem xstep_any (k : Xk) (e : Ex) (n : Nat) (fs : List Fl.Fl) (t : Tok) (r : List Tok) (w : World) (h : XW k w e n) (hi : e.inp = t :: r) (ha : Ask k e) (hF : Fls k w fs) (hL : Lo k fs) (hn : n ≤ 1000000) (hno : e.notes.length ≤ 99000) :
    Calls Tryz.prog 27 #[.pointer (some ⟨k.p, 0, none⟩)] w fun en w' => en = .returned (.tuple #[]) ∧ Below k.base w w' ∧ XW k w' (stepL Fl.nmOk (flF fs) k.most e) (n + 1) := by
  have HZ := Lib.hid (show k.base ≤ w.heap.size by have := h.size; omega)
  rw [step_do hi]
  obtain ⟨s, hx, hsn⟩ := h
  have hpt := (ha.pt.1 t (by rw [hi]; simp)).2
  have hfa := first_at hx hi
  have hlt : s.at_ < s.full.length := (List.getElem?_eq_some_iff.1 hfa).1
  have hfl := hx.flen
  obtain ⟨b, o, hTA, hcell⟩ := hx.toks.rd (by omega)
  obtain ⟨t0, t1⟩ := hcell s.at_ t hfa
  have c6 : w.drew.cell? ⟨k.p, 6, none⟩ = some (.slice (some ⟨b, o, none⟩) s.full.length s.tc) := by rw [← hTA]; exact hx.cell 6
  have c7 : w.drew.cell? ⟨k.p, 7, none⟩ = some (.int .i64 s.at_) := hx.cell 7
  have t0d : w.drew.cell? ⟨b, o + s.at_ * 2, none⟩ = some (.int .i64 t.1) := t0
  have t1d : w.drew.cell? ⟨b, o + s.at_ * 2 + 1, none⟩ = some (.string ⟨t.2.toArray⟩) := t1
  have i1 : (s.at_ : Int) < (s.full.length : Int) := by omega
  have i0 : (0 : Int) ≤ (s.at_ : Int) := by omega
  have hzb := one_below w (.cells #[.int .i64 0, .string ⟨#[]⟩] 89)
  have d6 : w.cell? ⟨k.p, 6, none⟩ = some (.slice (some ⟨b, o, none⟩) s.full.length s.tc) := c6
  have d7 : w.cell? ⟨k.p, 7, none⟩ = some (.int .i64 s.at_) := c7
  have z6 := cell_below hzb d6
  have z7 := cell_below hzb d7
  have z0 := cell_below hzb t0
  have z1 := cell_below hzb t1
  have y6 : (w.alloc (.cells #[.int .i64 0, .string ⟨#[]⟩] 89)).drew.cell? ⟨k.p, 6, none⟩ = some (.slice (some ⟨b, o, none⟩) s.full.length s.tc) := z6
  have y7 : (w.alloc (.cells #[.int .i64 0, .string ⟨#[]⟩] 89)).drew.cell? ⟨k.p, 7, none⟩ = some (.int .i64 s.at_) := z7
  have ob := bch (one_below w (.cells #[.int .i64 t.1, .string ⟨t.2.toArray⟩] 89)) (below_drew _)
  have hx0 := hx.below ob
  have e7 : (w.alloc (.cells #[.int .i64 t.1, .string ⟨t.2.toArray⟩] 89)).drew.cell? ⟨k.p, 7, none⟩ = some (.int .i64 s.at_) := hx0.cell 7
  have e7' : (w.alloc (.cells #[.int .i64 t.1, .string ⟨t.2.toArray⟩] 89)).cell? ⟨k.p, 7, none⟩ = some (.int .i64 s.at_) := hx0.cell 7
  have ef7 := hx0.froz 7
  have ef7' : (w.alloc (.cells #[.int .i64 t.1, .string ⟨t.2.toArray⟩] 89)).frozen? ⟨k.p, 7, none⟩ = false := hx0.froz 7
  have hX1 := take_XR hx0 hi
  have hne : w.heap.size ≠ k.p := by have := lt_of_blk hx.blk; omega
  have q0 := (cell_far (w := (w.alloc (.cells #[.int .i64 t.1, .string ⟨t.2.toArray⟩] 89)).drew) (p := k.p) (j := 7) (v := .int .i64 ((s.at_ : Int) + 1)) (a := ⟨w.heap.size, 0, none⟩) hne).trans (new_fst w (.int .i64 t.1) (.string ⟨t.2.toArray⟩) 89)
  have q1 := (cell_far (w := (w.alloc (.cells #[.int .i64 t.1, .string ⟨t.2.toArray⟩] 89)).drew) (p := k.p) (j := 7) (v := .int .i64 ((s.at_ : Int) + 1)) (a := ⟨w.heap.size, 1, none⟩) hne).trans (new_snd w (.int .i64 t.1) (.string ⟨t.2.toArray⟩) 89)
  have hb1 := (ob.mono HZ.out).setCell hx.hp (p := ⟨k.p, 7, none⟩) (.int .i64 ((s.at_ : Int) + 1))
  obtain ⟨W1, hW1⟩ : ∃ W1, (w.alloc (.cells #[.int .i64 t.1, .string ⟨t.2.toArray⟩] 89)).drew.setCell ⟨k.p, 7, none⟩ (.int .i64 ((s.at_ : Int) + 1)) = W1 := ⟨_, rfl⟩
  rw [hW1] at hX1 q0 q1 hb1
  obtain ⟨G, hG⟩ : ∃ G, doE Fl.nmOk (flF fs) k.most { e with inp := r } t = G := ⟨_, rfl⟩
  rw [hG]
  have HX1 := Lib.hid hX1
  have HB1 := Lib.hid hb1
  have HN := Lib.hid hsn
  have HQ1 := Lib.hid q1
  have CD := do_any k n fs t W1 { e with inp := r } ⟨_, hX1, hsn⟩ (ha.tail hi) (hF.low hL hb1) hL hn hpt
  rw [hG] at CD
  have CD := Lib.hid CD
  have HGN := Lib.hid (show G.notes.length ≤ 99001 by rw [← hG]; have := doE_note1 Fl.nmOk (flF fs) k.most { e with inp := r } t; have e1 : ({ e with inp := r } : Ex).notes = e.notes := rfl; rw [e1] at this; omega)
  have CI := Lib.hid (fun (j : Int) (b : Bool) (hb : (j == 10) = b) W => eis_any j 10 b hb W)
  have CI0 := Lib.hid (fun W => eis_nil 10 W)
  have CN := Lib.hid (fun (e1 : Ex) (o : Option Int) (nm : By) W (hW : XW k W e1 (n + 1)) (ho : errO o) (hl : e1.notes.length ≤ 100000) => xnote_any k e1 (n + 1) o nm W hW ho hl)
  clear hzb hcell hTA hx hx0 hX1 hb1 ob hG hfa hF ha
  go_enter Tryz.func27, Tryz.ntmps27
  go_wp2_with fail
  go_region
  go_wp2_with fail
  refine CD.out.mono ?_
  rintro en w3 ⟨e1, nm, o, rfl, ho, hb3, hx3, he, h10⟩
  have HB3 := Lib.hid (HB1.out.trans hb3)
  have HX3 := Lib.hid hx3
  have HE := Lib.hid he
  have HO := Lib.hid ho
  have HL3 := Lib.hid (show e1.notes.length ≤ 100000 by have := noted_len e1 (nameF o nm t.2) o; rw [he] at this; have := HGN.out; omega)
  have H10 := Lib.hid (fun h => cell_below (h10 h) HQ1.out)
  clear hb3 hx3 he ho h10
  cases o with
  | none =>
    unfold errV
    go_wp2_with fail
    refine (CI0.out _).mono ?_
    rintro en w4 ⟨rfl, rfl⟩
    go_wp2_with fail
    refine (CN.out e1 none nm _ HX3.out HO.out HL3.out).mono ?_
    rintro en w5 ⟨rfl, hb5, hx5⟩
    have HB5 := Lib.hid (HB3.out.trans hb5)
    have HX5 := Lib.hid hx5
    clear hb5 hx5
    go_wp2
    go_end0
    exact ⟨rfl, HB5.out, by rw [← HE.out]; exact HX5.out⟩
  | some j =>
    unfold errV
    by_cases hj : j = 10
    · subst hj
      have cS := H10.out rfl
      go_wp2_with fail
      refine (CI.out 10 true (by decide) _).mono ?_
      rintro en w4 ⟨rfl, hb4⟩
      have cS4 := cell_below hb4 cS
      have HX4 := Lib.hid (HX3.out.below hb4)
      have HB4 := Lib.hid (HB3.out.trans (hb4.mono (show k.base ≤ w3.heap.size by have := HX3.out.size; omega)))
      clear hb4
      go_wp2_with fail
      refine (CN.out e1 (some 10) t.2 _ HX4.out HO.out HL3.out).mono ?_
      rintro en w5 ⟨rfl, hb5, hx5⟩
      have HB5 := Lib.hid (HB4.out.trans hb5)
      have HX5 := Lib.hid hx5
      clear hb5 hx5
      go_wp2
      go_end0
      exact ⟨rfl, HB5.out, by rw [← HE.out]; exact HX5.out⟩
    · go_wp2_with fail
      refine (CI.out j false (by simpa using hj) _).mono ?_
      rintro en w4 ⟨rfl, hb4⟩
      have HX4 := Lib.hid (HX3.out.below hb4)
      have HB4 := Lib.hid (HB3.out.trans (hb4.mono (show k.base ≤ w3.heap.size by have := HX3.out.size; omega)))
      clear hb4
      go_wp2_with fail
      refine (CN.out e1 (some j) nm _ HX4.out HO.out HL3.out).mono ?_
      rintro en w5 ⟨rfl, hb5, hx5⟩
      have HB5 := Lib.hid (HB4.out.trans hb5)
      have HX5 := Lib.hid hx5
      clear hb5 hx5
      go_wp2
      go_end0
      exact ⟨rfl, HB5.out, by rw [← HE.out]; unfold nameF; rw [if_neg (fun h => hj (Option.some.inj h))]; exact HX5.out⟩
end Go.Proofs.YtmnbepapgghdaaaGreat
