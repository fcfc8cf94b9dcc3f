/-
  Package expand: note, put, burn, fits; slices.Contains of texts.
-/
import Derived.Test.YtmnbepapgghdaaaGreatK17
import Derived.Deep.RegionHeld3
import Derived.Test.YtmnbepapgghdaaaGreatK18
import Derived.BigQuiet
namespace Go.Proofs.YtmnbepapgghdaaaGreat
open Go.RowKit

theorem XW.size {k : Xk} {w : World} {e : Ex} {n : Nat} (h : XW k w e n) : k.p < w.heap.size ∧ k.base ≤ k.p := by
  obtain ⟨s, hr, _⟩ := h
  exact ⟨lt_of_blk hr.blk, hr.hp⟩
set_option maxHeartbeats 1000000 in
theorem sidxT_any (RA : Option Addr) (rc : Nat) (fs : List By) (g : By) (w : World) (hr : RdS w RA fs) (hc : fs.length ≤ 100000) :
    Calls Tryz.prog 79 #[.slice RA fs.length rc, .string ⟨g.toArray⟩] w fun e w' => (∃ v : Int, e = .returned (.int .i64 v) ∧ decide (0 ≤ v) = decide (g ∈ fs)) ∧ ∃ n, w' = w.drewN n := by
  go_enter Tryz.func79, Tryz.ntmps79
  go_wp2
  go_loopw [8] (fun i wr => ∃ k m : Nat, k ≤ fs.length ∧ i = .int .i64 k ∧ g ∉ fs.take k ∧ wr = w.drewN m) (fun i _ => fs.length - (intOf i).toNat)
  case atStart => exact ⟨0, 0, Nat.zero_le _, rfl, by simp, rfl⟩
  case round =>
    obtain ⟨k, m, hk, rfl, hall, rfl⟩ := hrel
    have Hall := Lib.hid hall
    clear hall
    by_cases hlt : k < fs.length
    · obtain ⟨b, o, rfl, hcell⟩ := hr (by omega)
      obtain ⟨f, hf⟩ : ∃ f, fs[k]? = some f := ⟨_, List.getElem?_eq_getElem hlt⟩
      have c1 := hcell k f hf
      have HF := Lib.hid hf
      clear hf hcell hr
      have i1 : (k : Int) < (fs.length : Int) := by omega
      by_cases hfg : g = f
      · have hrun : (g == f) = true := by simpa using hfg
        have HE := Lib.hid hfg
        clear hfg
        go_wp2
        go_ret
        exact ⟨⟨k, rfl, by rw [decide_eq_true (show (0 : Int) ≤ k by omega)]; exact mem_stop HF.out HE.out.symm⟩, _, by first | rfl | exact World.drewN_drewN _ _ _⟩
      · have hrun : (g == f) = false := by simpa using hfg
        have HE := Lib.hid hfg
        clear hfg
        go_wp2
        go_roundw
        case rel => exact ⟨k + 1, _, by omega, by go_num, mem_step HF.out (fun e => HE.out e.symm) Hall.out, rfl⟩
        case measure => simp [intOf]; omega
    · go_wp2
      go_ret
      exact ⟨⟨-1, rfl, by rw [decide_eq_false (show ¬ (0 : Int) ≤ -1 by decide)]; exact mem_end (by omega) Hall.out⟩, _, by first | rfl | exact World.drewN_drewN _ _ _⟩
set_option maxHeartbeats 1000000 in
theorem scontT_any (RA : Option Addr) (rc : Nat) (fs : List By) (g : By) (w : World) (hr : RdS w RA fs) (hc : fs.length ≤ 100000) :
    Calls Tryz.prog 48 #[.slice RA fs.length rc, .string ⟨g.toArray⟩] w fun e w' => e = .returned (.bool (decide (g ∈ fs))) ∧ ∃ n, w' = w.drewN n := by
  have C := Lib.hid (sidxT_any RA rc fs g w hr hc)
  go_enter Tryz.func48, Tryz.ntmps48
  go_wp2_with fail
  refine C.out.mono ?_
  rintro e w' ⟨⟨v, rfl, hv⟩, m, rfl⟩
  cases hd : decide (g ∈ fs)
  · rw [hd] at hv
    have hv := of_decide_eq_false hv
    have q : decide (0 ≤ v) = false := decide_eq_false hv
    go_wp2
    go_ret
    exact ⟨ret_bool hd.symm, _, rfl⟩
  · rw [hd] at hv
    have hv := of_decide_eq_true hv
    have q : decide (0 ≤ v) = true := decide_eq_true hv
    go_wp2
    go_ret
    exact ⟨ret_bool hd.symm, _, rfl⟩
theorem xC_at (k : Xk) (s : Xs) (e : Ex) : (xC k s e)[0]? = some (.slice k.FA k.fn k.fc) ∧ (xC k s e)[1]? = some (.int .i64 k.fuel) ∧ (xC k s e)[2]? = some (.int .i64 k.most) ∧ (xC k s e)[3]? = some (.map (some k.cb)) ∧ (xC k s e)[4]? = some (.slice s.MA e.ms.length s.mc) ∧ (xC k s e)[5]? = some (.map (some k.mb)) ∧
    (xC k s e)[6]? = some (.slice s.TA s.full.length s.tc) ∧ (xC k s e)[7]? = some (.int .i64 s.at_) ∧ (xC k s e)[8]? = some (.slice s.LA e.out.length s.lc) ∧ (xC k s e)[9]? = some (.slice s.RA e.reads.length s.rc) ∧ (xC k s e)[10]? = some (.slice s.NA e.notes.length s.nc) ∧ (xC k s e)[11]? = some (.int .i64 e.used) := ⟨rfl, rfl, rfl, rfl, rfl, rfl, rfl, rfl, rfl, rfl, rfl, rfl⟩
theorem butx_trans {X : Option Nat} {a b c : World} (h : ButX X a b) (hs : a.heap.size ≤ b.heap.size) (k : ButX X b c) : ButX X a c := fun i hi hn => (k i (Nat.lt_of_lt_of_le hi hs) hn).trans (h i hi hn)
set_option maxRecDepth 100000 in
set_option maxHeartbeats 1000000 in
theorem xburn_s (k : Xk) (s : Xs) (e : Ex) (w : World) (hr : XR k w s e) (hf : k.fuel ≤ 1000) :
    Calls Tryz.prog 101 #[.pointer (some ⟨k.p, 0, none⟩)] w fun en w' => en = .returned (if e.fuel = 0 then errV (some 9) else errV none) ∧ Below k.base w w' ∧ XR k w' s (if e.fuel = 0 then e else e.burn) ∧ ButX (some k.p) w w' := by
  have HZ := Lib.hid (show k.base ≤ w.heap.size by have := lt_of_blk hr.blk; have := hr.hp; omega)
  have hfu := hr.fuel
  have c1 : w.cell? ⟨k.p, 1, none⟩ = some (.int .i64 k.fuel) := hr.cell 1
  have c11 : w.cell? ⟨k.p, 11, none⟩ = some (.int .i64 e.used) := hr.cell 11
  have f11 := hr.froz 11
  by_cases h0 : e.fuel = 0
  · rw [if_pos h0, if_pos h0]
    have q : (k.fuel : Int) ≤ (e.used : Int) := by omega
    have HR := Lib.hid hr
    clear hr h0 hfu
    go_enter Tryz.func101, Tryz.ntmps101
    go_wp2_with fail
    go_quiet (fail)
    go_wp2
    go_ret
    exact ⟨rfl, (drewN_below w _).mono HZ.out, HR.out.below (drewN_below w _), fun _ _ _ => rfl⟩
  · rw [if_neg h0, if_neg h0]
    have q : ¬ (k.fuel : Int) ≤ (e.used : Int) := by omega
    have hS := fun m => (hr.below (drewN_below w m)).setP 11 (.int .i64 ((e.used : Int) + 1)) (a := s.at_) (e' := e.burn) (by
      have : ((e.burn.used : Nat) : Int) = (e.used : Int) + 1 := by show ((e.used + 1 : Nat) : Int) = _; omega
      unfold xC; rw [this]; rfl) hr.atl hr.inp rfl (by show e.fuel - 1 + (e.used + 1) = _; omega) rfl rfl rfl
    have HS := Lib.hid hS
    have HB := Lib.hid (fun m => ((drewN_below w m).mono HZ.out).setCell hr.hp (p := ⟨k.p, 11, none⟩) (.int .i64 ((e.used : Int) + 1)))
    have hu : e.used ≤ 1000 := by omega
    clear hr h0 hfu hS
    go_enter Tryz.func101, Tryz.ntmps101
    go_wp2_with fail
    go_quiet (fail)
    go_wp2
    go_ret
    exact ⟨rfl, HB.out _, HS.out _, but_set (w := w.drewN _) k.p 11 _⟩
theorem xburn_any (k : Xk) (e : Ex) (n : Nat) (w : World) (h : XW k w e n) (hf : k.fuel ≤ 1000) :
    Calls Tryz.prog 101 #[.pointer (some ⟨k.p, 0, none⟩)] w fun en w' => en = .returned (if e.fuel = 0 then errV (some 9) else errV none) ∧ Below k.base w w' ∧ XW k w' (if e.fuel = 0 then e else e.burn) n ∧ ButX (some k.p) w w' := by
  obtain ⟨s, hr, hn⟩ := h
  exact (xburn_s k s e w hr hf).mono fun _ _ ⟨h1, h2, h3, h4⟩ => ⟨h1, h2, ⟨s, h3, hn⟩, h4⟩
set_option maxRecDepth 100000 in
set_option maxHeartbeats 1000000 in
theorem xfits_any (k : Xk) (e : Ex) (n m : Nat) (w : World) (h : XW k w e n) (hm : m ≤ 1000000) (hl : k.most ≤ 100000) (hi : e.inp.length ≤ 100000) :
    Calls Tryz.prog 102 #[.pointer (some ⟨k.p, 0, none⟩), .int .i64 m] w fun en w' => en = .returned (.bool (decide (m + e.inp.length ≤ k.most))) ∧ Below w.heap.size w w' := by
  obtain ⟨s, hr, hn⟩ := h
  have c2 : w.cell? ⟨k.p, 2, none⟩ = some (.int .i64 k.most) := hr.cell 2
  have c6 : w.cell? ⟨k.p, 6, none⟩ = some (.slice s.TA s.full.length s.tc) := hr.cell 6
  have c7 : w.cell? ⟨k.p, 7, none⟩ = some (.int .i64 s.at_) := hr.cell 7
  have hal := hr.atl
  have hil : e.inp.length = s.full.length - s.at_ := by rw [← hr.inp, List.length_drop]
  have hfl := hr.flen
  go_enter Tryz.func102, Tryz.ntmps102
  go_wp2_with fail
  go_quiet (fail)
  go_wp2
  go_ret
  exact ⟨ret_bool (decide_eq_decide.2 (by omega)), drewN_below w _⟩

def errO (o : Option Int) : Prop := ∀ k, o = some k → okE k
/-- A cell that holds a token, or a note, alone in a new block. -/
theorem one_new (w : World) (t : Tok) (ty : TypeId) : Rd (w.alloc (.cells #[.int .i64 t.1, .string ⟨t.2.toArray⟩] ty)) (some ⟨w.heap.size, 0, none⟩) [t] := one_read (new_fst _ _ _ _) (new_snd _ _ _ _)
theorem note_ahead {k : Xk} {w w1 : World} {s : Xs} {e : Ex} {t : Tok} (hr : XR k w s e) (hb : Below w.heap.size w w1) :
    Hid (XR k (w1.alloc (.cells #[.int .i64 t.1, .string ⟨t.2.toArray⟩] 86)) s e) ∧ Hid (Below k.base w (w1.alloc (.cells #[.int .i64 t.1, .string ⟨t.2.toArray⟩] 86))) ∧ Hid (k.base ≤ (w1.alloc (.cells #[.int .i64 t.1, .string ⟨t.2.toArray⟩] 86)).heap.size) := by
  have b := bch hb (one_below w1 (.cells #[.int .i64 t.1, .string ⟨t.2.toArray⟩] 86))
  have hs : k.base ≤ w.heap.size := by have := lt_of_blk hr.blk; have := hr.hp; omega
  exact ⟨Lib.hid (hr.below b), Lib.hid (b.mono hs), Lib.hid (Nat.le_trans hs b.size)⟩
theorem note_behind {k : Xk} {w0 w w2 : World} {s : Xs} {e : Ex} {A : Option Addr} {c : Nat} {l : List Tok} (hr : XR k w s e) (hb : Below k.base w0 w) (ho : Own 86 w2 k.base A c l) (hg : w.grownBy w2 (obA s.NA)) (hn : obA A = obA s.NA ∨ obA A = some w.heap.size) :
    w2.cell? ⟨k.p, 10, none⟩ = some (.slice s.NA e.notes.length s.nc) ∧ w2.frozen? ⟨k.p, 10, none⟩ = false ∧ Hid (XR k (w2.setCell ⟨k.p, 10, none⟩ (.slice A l.length c)) { s with NA := A, nc := c } { e with notes := l }) ∧ Hid (Below k.base w0 (w2.setCell ⟨k.p, 10, none⟩ (.slice A l.length c))) := by
  have hk := blk_grown hr hg hr.nNp
  have hs : k.base ≤ w.heap.size := by have := lt_of_blk hr.blk; have := hr.hp; omega
  exact ⟨cell_of hk 10, frozen_of hk 10, Lib.hid (hr.pushN ho hg hn), Lib.hid ((hb.trans (below_grown hr.notes (by rw [obA_own]; exact hg) hs)).setCell hr.hp (p := ⟨k.p, 10, none⟩) _)⟩
set_option maxRecDepth 100000 in
set_option maxHeartbeats 4000000 in
theorem xnote_any (k : Xk) (e : Ex) (n : Nat) (o : Option Int) (nm : By) (w : World) (h : XW k w e n) (ho : errO o) (hn : e.notes.length ≤ 100000) :
    Calls Tryz.prog 26 #[.pointer (some ⟨k.p, 0, none⟩), .string ⟨nm.toArray⟩, errV o] w fun en w' => en = .returned (.tuple #[]) ∧ Below k.base w w' ∧ XW k w' (noted e nm o) n := by
  cases o with
  | none =>
    unfold errV
    have H := Lib.hid h
    clear h
    go_enter Tryz.func26, Tryz.ntmps26
    go_wp2
    go_end0
    exact ⟨rfl, Below.refl _ _, H.out⟩
  | some j =>
    have C := Lib.hid (fun w => number_any j (ho j rfl) w)
    obtain ⟨s, hr, hsn⟩ := h
    have c10 : w.cell? ⟨k.p, 10, none⟩ = some (.slice s.NA e.notes.length s.nc) := hr.cell 10
    have HR := Lib.hid (hr.below (below_drew w))
    have HB0 := Lib.hid ((below_drew w).mono (show k.base ≤ w.heap.size by have := lt_of_blk hr.blk; have := hr.hp; omega))
    have C10 := Lib.hid c10
    obtain ⟨r, hr0⟩ : ∃ r, e.notes ++ [(j, nm)] = r := ⟨_, rfl⟩
    have HY := Lib.hid hr0
    have HN := Lib.hid hsn
    unfold errV at C ⊢
    clear hr hr0 ho hsn
    go_enter Tryz.func26, Tryz.ntmps26
    go_wp2_with fail
    have c10 : w.drew.cell? ⟨k.p, 10, none⟩ = some (.slice s.NA e.notes.length s.nc) := C10.out
    go_region_law (first
      | (refine step_call w.drew (by rfl) 50 _ _ (by rfl) #[.iface 104 (.agg #[.int .i64 j])] (by rfl) (enter50 _ _) (R := fun v w' => v = .int .i64 j ∧ Below w.drew.heap.size w.drew w') ((C.out w.drew).mono fun _ _ q => ⟨_, q.1, rfl, q.2⟩) ?_
         rintro v w1 ⟨rfl, hb1⟩
         have HA := note_ahead (t := (j, nm)) HR.out hb1
         have c11 : w1.cell? ⟨k.p, 10, none⟩ = some (.slice s.NA e.notes.length s.nc) := cell_below hb1 C10.out
         have c12 : (w1.alloc (.cells #[.int .i64 j, .string ⟨nm.toArray⟩] 86)).cell? ⟨k.p, 10, none⟩ = some (.slice s.NA e.notes.length s.nc) := HA.1.out.cell 10)
      | (refine step_append_n (w1.alloc (.cells #[.int .i64 j, .string ⟨nm.toArray⟩] 86)) (by rfl) _ _ (by rfl) k.base s.NA s.nc e.notes (by rfl) HA.1.out.notes (some ⟨w1.heap.size, 0, none⟩) 1 1 [(j, nm)] (by rfl) (by rfl) (one_new w1 (j, nm) 86) (by show _ + 1 ≤ _; omega) HA.2.2.out r HY.out ?_
         intro A' c' w2 ho2 hg2 hn2
         obtain ⟨d10, f10, HW, HB2⟩ := note_behind HA.1.out (HB0.out.trans HA.2.1.out) ho2 hg2 hn2))
    all_goals
      go_end0
      have e0 : noted e nm (some j) = { e with notes := r } := by rw [← HY.out]; rfl
      exact ⟨rfl, HB2.out, { s with NA := A', nc := c' }, by rw [e0]; exact HW.out, HN.out⟩
end Go.Proofs.YtmnbepapgghdaaaGreat
