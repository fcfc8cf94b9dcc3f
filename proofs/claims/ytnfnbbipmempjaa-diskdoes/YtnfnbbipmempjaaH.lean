/-
  A disk of the call's own beside other memory of its own (MineG); the walk of DiskOne: for every input it returns true; old memory stays.
-/
import Derived.Test.YtnfnbbipmempjaaG
namespace Go.Proofs.Ytnfnbbipmempjaa
open Go.RowKit

/-- A disk that was made since w0, beside the blocks G, which were made since, too; nothing of w0 has turned. -/
def MineG (G : Nat → Prop) (w0 w : World) (s : Nat) (st : DS) : Prop := ∃ F, DiskAt w s F st ∧ (∀ x, F x → w0.heap.size ≤ x ∧ ¬ G x) ∧ (∀ x, G x → w0.heap.size ≤ x ∧ x < w.heap.size) ∧ Below w0.heap.size w0 w
theorem MineG.below {G : Nat → Prop} {w0 w : World} {s : Nat} {st : DS} (h : MineG G w0 w s st) : Below w0.heap.size w0 w := by obtain ⟨_, _, _, _, h⟩ := h; exact h
theorem MineG.step {G : Nat → Prop} {w0 w : World} {s f : Nat} {st st' : DS} {v : Value} {args : Array Value} (h : MineG G w0 w s st) (C : ∀ F, DiskAt w s F st → Calls Try.prog f args w (DPost w s F st' v)) :
    Calls Try.prog f args w (fun e w' => e = .returned v ∧ MineG G w0 w' s st' ∧ ∀ b, G b → w'.heap[b]? = w.heap[b]?) := by
  obtain ⟨F, hd, hF, hG, hb⟩ := h
  refine (C F hd).mono ?_
  rintro e w' ⟨rfl, hk, F', hd', hF'⟩
  have hs := hk.size
  refine ⟨rfl, ⟨F', hd', fun x hx => ?_, fun x hx => ⟨(hG x hx).1, by have := (hG x hx).2; omega⟩, hb.trans (hk.below hb.size (fun x hx => (hF x hx).1))⟩, fun b hgb => hk.block b (hG b hgb).2 (fun hf => (hF b hf).2 hgb)⟩
  rcases hF' x hx with q | q
  · exact hF x q
  · exact ⟨Nat.le_trans hb.size q, fun hg => by have := (hG x hg).2; omega⟩
theorem MineG.read {G : Nat → Prop} {w0 w : World} {s : Nat} {st : DS} (h : MineG G w0 w s st) (i0 : Int) :
    Calls Try.prog 21 #[.pointer (some ⟨s, 0, none⟩), .int .i64 i0] w fun e w' => e = .returned (.tuple #[.string ⟨(readS st i0).toArray⟩, .int .i64 (readE st i0)]) ∧ w' = w := by
  obtain ⟨F, hd, _⟩ := h
  exact read_any i0 s F st w hd
theorem MineG.write {G : Nat → Prop} {w0 w : World} {s : Nat} {st : DS} (h : MineG G w0 w s st) (i0 : Int) (t : Tx) (hc : st.cnt < 1000) (ht : t.length ≤ 1000) :
    Calls Try.prog 17 #[.pointer (some ⟨s, 0, none⟩), .int .i64 i0, .string ⟨t.toArray⟩] w (fun e w' => e = .returned (.int .i64 (writeE st i0 t)) ∧ MineG G w0 w' s (writeS st i0 t) ∧ ∀ b, G b → w'.heap[b]? = w.heap[b]?) := h.step fun F hd => write_disk i0 s t F st w hd hc ht
theorem MineG.crash {G : Nat → Prop} {w0 w : World} {s : Nat} {st : DS} (h : MineG G w0 w s st) (B : Option Addr) (cB : Nat) (ks : List Bool) (hr : RdB w B ks) (hks : ks.length ≤ 9223372036854775807) :
    Calls Try.prog 15 #[.pointer (some ⟨s, 0, none⟩), .slice B ks.length cB] w (fun e w' => e = .returned (.tuple #[]) ∧ MineG G w0 w' s (crashS st ks) ∧ ∀ b, G b → w'.heap[b]? = w.heap[b]?) := h.step fun F hd => crash_disk B cB s ks F st w hd hr hks
theorem MineG.set {G : Nat → Prop} {w0 w : World} {s : Nat} {st : DS} (h : MineG G w0 w s st) (p : Addr) (v : Value) (hp : G p.block) : MineG G w0 (w.setCell p v) s st := by
  obtain ⟨F, hd, hF, hG, hb⟩ := h
  refine ⟨F, hd.kp (G := (· = p.block)) ((Kp.refl (· = p.block) w).setCell (.inl rfl) v) (fun x hx e => (hF x hx).2 (by rw [e]; exact hp)), hF, fun x hx => ⟨(hG x hx).1, by have := (hG x hx).2; simpa using this⟩, hb.setCell (hG _ hp).1 v⟩
theorem MineG.kp {G : Nat → Prop} {w0 w w' : World} {s : Nat} {st : DS} (h : MineG G w0 w s st) (hk : Below w.heap.size w w') : MineG G w0 w' s st := by
  obtain ⟨F, hd, hF, hG, hb⟩ := h
  exact ⟨F, hd.kp (Kp.of_below hk NoB) (fun _ _ h => h), hF, fun x hx => ⟨(hG x hx).1, Nat.lt_of_lt_of_le (hG x hx).2 hk.size⟩, hb.trans (hk.mono hb.size)⟩
theorem MineG.alloc {G : Nat → Prop} {w0 w : World} {s : Nat} {st : DS} (h : MineG G w0 w s st) (o : Obj) : MineG G w0 (w.alloc o) s st := h.kp ((Below.refl _ _).alloc (Nat.le_refl _) _)
/-- A new block beside the disk. -/
theorem Mine.beside {w0 w : World} {s : Nat} {st : DS} (h : Mine w0 w s st) (o : Obj) : MineG (· = w.heap.size) w0 (w.alloc o) s st := by
  obtain ⟨F, hd, hF, hb⟩ := h
  refine ⟨fun x => F x ∧ x < w.heap.size, hd.within.kp ((kno w).alloc o) (fun _ _ h => h), fun x hx => ⟨hF x hx.1, by omega⟩, fun x hx => by subst hx; exact ⟨hb.size, by simp⟩, hb.alloc hb.size o⟩

def oldS : Nat → DS
  | 0 => newS 4
  | k + 1 => writeS (oldS k) k [111, 108, 100]
def oneB : Nat → Tx := (syncS (oldS 4)).base
/-- The rows that DiskOne keeps beside the disk. -/
structure OneOk (ks : List Bool) (k : Nat) (st : DS) (wl : List Tx) : Prop where
  n : st.n = 4
  lim : st.lim = none
  cnt : st.cnt = 4 + k
  len : st.pend.length = k
  base : st.base = oneB
  wlen : wl.length = 4
  want : ∀ i, i < 4 → wl[i]? = some (doL oneB (keptL st.pend ks) i)
theorem kept_snoc (p : List Wt) (x : Wt) (ks : List Bool) : keptL (p ++ [x]) ks = if ks[p.length]? = some true then keptL p ks ++ [x] else keptL p ks := by
  have := kept_step (p ++ [x]) ks p.length x (by simp)
  rw [List.take_of_length_le (by simp)] at this
  rw [this]
  simp
theorem OneOk.start (ks : List Bool) : OneOk ks 0 (syncS (oldS 4)) [[111, 108, 100], [111, 108, 100], [111, 108, 100], [111, 108, 100]] := by
  refine ⟨rfl, rfl, rfl, rfl, rfl, rfl, fun i hi => ?_⟩
  have : (syncS (oldS 4)).pend = [] := rfl
  rw [this]
  have e : keptL [] ks = [] := rfl
  rw [e, doL_nil]
  match i, hi with
  | 0, _ => rfl
  | 1, _ => rfl
  | 2, _ => rfl
  | 3, _ => rfl
theorem OneOk.write {ks : List Bool} {k j : Nat} {st : DS} {wl : List Tx} {t : Tx} (h : OneOk ks k st wl) (hj : j < 4) (ht : t.length ≤ 64) : writeE st j t = 0 ∧ (writeS st j t).cnt = 5 + k ∧ readS (writeS st j t) j = t ∧ readE (writeS st j t) j = 0 := by
  obtain ⟨e1, e2⟩ := write_none h.n hj h.lim ht
  rw [e2]
  have hb : hasB (pushS st j t) j = true := has_nat (show (pushS st j t).n = 4 from h.n) hj
  refine ⟨e1, by show st.cnt + 1 = _; rw [h.cnt]; omega, ?_, by unfold readE; rw [hb]; rfl⟩
  unfold readS
  rw [hb, if_pos rfl]
  show doL st.base (st.pend ++ [(j, t)]) j = t
  rw [doL_snoc, if_pos rfl]
theorem OneOk.no {ks : List Bool} {k j : Nat} {st : DS} {wl : List Tx} {t : Tx} (h : OneOk ks k st wl) (hj : j < 4) (ht : t.length ≤ 64) (hk : ks[k]? ≠ some true) : OneOk ks (k + 1) (writeS st j t) wl := by
  obtain ⟨e1, e2⟩ := write_none h.n hj h.lim ht
  rw [e2]
  refine ⟨h.n, h.lim, by show st.cnt + 1 = _; rw [h.cnt]; omega, by show (st.pend ++ [(j, t)]).length = _; simp [h.len], h.base, h.wlen, fun i hi => ?_⟩
  show wl[i]? = some (doL oneB (keptL (st.pend ++ [(j, t)]) ks) i)
  rw [kept_snoc, h.len, if_neg hk]
  exact h.want i hi
theorem OneOk.yes {ks : List Bool} {k j : Nat} {st : DS} {wl wl' : List Tx} {t : Tx} (h : OneOk ks k st wl) (hj : j < 4) (ht : t.length ≤ 64) (hk : ks[k]? = some true) (hw : wl.set j t = wl') : OneOk ks (k + 1) (writeS st j t) wl' := by
  obtain ⟨e1, e2⟩ := write_none h.n hj h.lim ht
  rw [e2, ← hw]
  refine ⟨h.n, h.lim, by show st.cnt + 1 = _; rw [h.cnt]; omega, by show (st.pend ++ [(j, t)]).length = _; simp [h.len], h.base, by simp [h.wlen], fun i hi => ?_⟩
  show (wl.set j t)[i]? = some (doL oneB (keptL (st.pend ++ [(j, t)]) ks) i)
  rw [kept_snoc, h.len, if_pos hk, doL_snoc, List.getElem?_set]
  by_cases hij : j = i
  · subst hij
    simp [h.wlen, hj]
  · simp only [if_neg hij]
    exact h.want i hi
theorem OneOk.crash {ks : List Bool} {k i : Nat} {st : DS} {wl : List Tx} (h : OneOk ks k st wl) (hi : i < 4) : wl[i]? = some (readS (crashS st ks) i) ∧ readE (crashS st ks) i = 0 := by
  have hb : hasB (crashS st ks) i = true := has_nat (show (crashS st ks).n = 4 from h.n) hi
  refine ⟨?_, by unfold readE; rw [hb]; rfl⟩
  unfold readS
  rw [hb, if_pos rfl, h.want i hi]
  show _ = some (doL (doL st.base (keptL st.pend ks)) [] i)
  rw [doL_nil, h.base]

/-- A slice of bytes. -/
def ycells (l : List UInt8) : List Value := l.map fun x => .int .u8 x.toNat
abbrev RdY (w : World) (A : Option Addr) (p : List UInt8) : Prop := RdC w A (ycells p)
theorem ycells_len (l : List UInt8) : (ycells l).length = l.length := by simp [ycells]
theorem ycells_at {l : List UInt8} {k : Nat} {x : UInt8} (h : l[k]? = some x) : (ycells l)[k]? = some (.int .u8 x.toNat) := by simp [ycells, h]

theorem conv1 (w : World) (x : Int) (c : UInt8) (hc : (c.toNat : Int) = x) :
    (convert 53 9 (.slice (some ⟨w.heap.size, 0, none⟩) 1 1)).run Try.prog (w.alloc (Obj.cells #[Value.int IntKind.u8 x] 5)) = .ok (.string ⟨[c].toArray⟩) (w.alloc (Obj.cells #[Value.int IntKind.u8 x] 5)) := by
  refine run_convert_bytes_back _ 53 9 5 ⟨w.heap.size, 0, none⟩ 1 [c] Try.underlying53 Try.underlying5 Try.underlying9 (fun j hj => ?_)
  obtain rfl : j = 0 := by simpa using hj
  show (w.alloc _).cell? ⟨w.heap.size, 0, none⟩ = _
  rw [World.cell?_alloc_new]
  simp only [List.getElem_cons_zero]
  rw [hc]; rfl
theorem byte_int (k : Nat) (h : k < 256) : ((UInt8.ofNat k).toNat : Int) = (k : Int) := by
  rw [UInt8.toNat_ofNat', Nat.mod_eq_of_lt h]
theorem scells_set (wl : List Tx) (j : Nat) (t : Tx) : (scells wl).toArray.setIfInBounds j (.string ⟨t.toArray⟩) = (scells (wl.set j t)).toArray := by
  apply Array.ext'
  simp [scells, List.map_set]
set_option maxRecDepth 100000 in
set_option maxHeartbeats 4000000 in
theorem diskOne_walk (A0 A1 : Option Addr) (c0 c1 : Nat) (l : List UInt8) (ks : List Bool) (w : World) (hr : RdY w A0 l) (hq : RdB w A1 ks) (hl : l.length ≤ 9223372036854775807) (ha : ks.length ≤ 9223372036854775807) :
    Calls Try.prog 5 #[.slice A0 l.length c0, .slice A1 ks.length c1] w fun e w' => e = .returned (.bool true) ∧ Below w.heap.size w w' := by
  have HR := Lib.hid hr
  have HQ := Lib.hid hq
  clear hr hq
  go_enter Try.func5, Try.ntmps5
  go_wp2_with fail
  refine (Mine.new w 4 (by omega) (by omega)).mono ?_
  rintro e w1 ⟨s, rfl, h1⟩
  have H1 := Lib.hid h1
  clear h1
  go_wp2_with fail
  go_loopw [7] (fun i wr => ∃ (k : Nat), k ≤ 4 ∧ i = .int .i64 k ∧ Mine w wr s (oldS k) ∧ (oldS k).cnt ≤ k) (fun i _ => 4 - (intOf i).toNat)
  case atStart => exact ⟨0, by omega, rfl, H1.out, Nat.le_refl _⟩
  case round =>
    obtain ⟨k, hk, rfl, hm, hc⟩ := hrel
    clear H1
    have HM := Lib.hid hm
    clear hm
    by_cases hlt : k < 4
    · have C := Lib.hid (HM.out.write (k : Int) [111, 108, 100] (by omega) (by decide))
      have hc2 : Hid ((writeS (oldS k) k [111, 108, 100]).cnt ≤ k + 1) := by
        show (writeS (oldS k) k [111, 108, 100]).cnt ≤ k + 1
        unfold writeS
        split
        · split
          · split
            · show (usedS (oldS k)).cnt + 1 ≤ k + 1
              show (oldS k).cnt + 1 ≤ k + 1
              omega
            · omega
          · omega
        · omega
      clear hc
      go_wp2_with fail
      refine C.out.mono ?_
      rintro e w3 ⟨rfl, h3⟩
      have H3 : Hid (Mine w w3 s (oldS (k + 1))) := h3
      clear h3 HM C
      go_wp2_with fail
      go_roundw
      case rel => exact ⟨k + 1, by omega, by go_num, H3.out, hc2.out⟩
      case measure => simp [intOf]; omega
    · obtain rfl : k = 4 := by omega
      clear hc
      have C1 := Lib.hid HM.out.sync
      go_wp2_with fail
      refine C1.out.mono ?_
      rintro e w2 ⟨rfl, h2⟩
      have H2 := Lib.hid h2
      clear h2 C1 HM
      obtain ⟨g, hg⟩ : ∃ g, w2.heap.size = g := ⟨_, rfl⟩
      have H4 := Lib.hid (And.intro (H2.out.beside (.cells #[.string ⟨#[111, 108, 100]⟩, .string ⟨#[111, 108, 100]⟩, .string ⟨#[111, 108, 100]⟩, .string ⟨#[111, 108, 100]⟩] 9)) (blk_new w2 (.cells #[.string ⟨#[111, 108, 100]⟩, .string ⟨#[111, 108, 100]⟩, .string ⟨#[111, 108, 100]⟩, .string ⟨#[111, 108, 100]⟩] 9)))
      rw [hg] at H4
      have HG := Lib.hid hg
      clear hg H2
      go_wp2_with fail
      rw [HG.out]
      generalize w2.alloc (.cells #[.string ⟨#[111, 108, 100]⟩, .string ⟨#[111, 108, 100]⟩, .string ⟨#[111, 108, 100]⟩, .string ⟨#[111, 108, 100]⟩] 9) = w4 at *
      clear HG
      go_loopw [9] (fun i wr => ∃ (k : Nat) (st : DS) (wl : List Tx), k ≤ l.length ∧ k ≤ 20 ∧ i = .int .i64 k ∧ MineG (· = g) w wr s st ∧ OneOk ks k st wl ∧ wr.heap[g]? = some (.cells (scells wl).toArray 9)) (fun i _ => l.length - (intOf i).toNat)
      case atStart => exact ⟨0, _, _, Nat.zero_le _, by omega, rfl, H4.out.1, OneOk.start ks, H4.out.2⟩
      case round =>
        obtain ⟨k, st, wl, hk, hk20, rfl, hm, ho, hgb⟩ := hrel
        clear H4
        have HM := Lib.hid hm
        have HO := Lib.hid ho
        have HB := Lib.hid hgb
        clear hm ho hgb
        by_cases hlt : k < l.length ∧ k < 20
        · obtain ⟨hlt, h20⟩ := hlt
          obtain ⟨x, hx⟩ : ∃ x, l[k]? = some x := ⟨_, List.getElem?_eq_getElem hlt⟩
          obtain ⟨b, o, rfl, hcell⟩ := HR.out (by rw [ycells_len]; omega)
          have cx0 := hcell k _ (ycells_at hx)
          have hx8 : x.toNat < 256 := x.toNat_lt
          obtain ⟨a, haa⟩ : ∃ a, x.toNat = a := ⟨_, rfl⟩
          rw [haa] at cx0 hx8
          have hb0 : b < w.heap.size := World.block_lt_of_cell? _ _ cx0
          have cx := (HM.out.below.cell hb0).trans cx0
          have hbl : b < wr.heap.size := World.block_lt_of_cell? _ _ cx
          have CX := Lib.hid (And.intro hb0 cx0)
          clear cx0 hb0
          have hc : st.cnt < 1000 := by have := HO.out.cnt; omega
          have i1 : (k : Int) < (l.length : Int) := by omega
          clear hx hcell haa
          obtain ⟨c, hcc⟩ : ∃ c : UInt8, (c.toNat : Int) = (k : Int) := ⟨UInt8.ofNat k, byte_int k (by omega)⟩
          have hcv := conv1 wr k c hcc
          have HK := Lib.hid h20
          obtain ⟨T, hT⟩ : ∃ T : Tx, [c] = T := ⟨_, rfl⟩
          rw [hT] at hcv
          have hTl : T.length ≤ 64 := by rw [← hT]; simp
          have em : ((a : Int) % 4) = ((a % 4 : Nat) : Int) := by omega
          obtain ⟨z1, z2, z3, z4⟩ := HO.out.write (j := a % 4) (t := T) (by omega) hTl
          have C := Lib.hid ((HM.out.alloc (.cells #[.int .u8 k] 5)).write (((a % 4 : Nat) : Int)) T hc (by omega))
          rw [z1] at C
          obtain ⟨st', hst'⟩ : ∃ st', writeS st ((a % 4 : Nat) : Int) T = st' := ⟨_, rfl⟩
          rw [hst'] at C z2 z3 z4
          rw [← em] at C z3 z4
          have Z := Lib.hid (And.intro z3 z4)
          have HST := Lib.hid hst'
          clear z1 z2 z3 z4 hst' hcc hT em
          go_wp2_with fail
          refine C.out.mono ?_
          rintro e w5 ⟨rfl, h5, k5⟩
          have H5 := Lib.hid h5
          have hb5 := (k5 g rfl).trans (blk_alloc HB.out (.cells #[.int .u8 k] 5))
          have HB5 := Lib.hid hb5
          have hlow : Hid (Below w.heap.size w w5) := H5.out.below
          have C2 := Lib.hid (h5.read ((a : Int) % 4))
          rw [Z.out.1, Z.out.2] at C2
          have cx5 := (hlow.out.cell CX.out.1).trans CX.out.2
          have cg : ∃ u, w5.cell? ⟨g, a % 4, none⟩ = some u := by
            rw [cell_of hb5 (a % 4), List.getElem?_toArray]
            exact ⟨_, List.getElem?_eq_getElem (by rw [scells_len, HO.out.wlen]; omega)⟩
          obtain ⟨u, cg⟩ := cg
          have fg := frozen_of hb5 (a % 4)
          clear h5 k5 hb5 HM cx C hcv HB
          by_cases hkl : k < ks.length
          · obtain ⟨v, hv⟩ : ∃ v, ks[k]? = some v := ⟨_, List.getElem?_eq_getElem hkl⟩
            obtain ⟨b2, o2, rfl, hcb⟩ := HQ.out.below hlow.out (by rw [bcells_len]; omega)
            have c3 := hcb k _ (bcells_at hv)
            have i2 : (k : Int) < (ks.length : Int) := by omega
            have HV := Lib.hid hv
            clear hcb hv
            cases v
            · have Z3 := Lib.hid (HO.out.no (j := a % 4) (t := T) (by omega) hTl (by rw [HV.out]; simp))
              rw [HST.out] at Z3
              clear HO HST HV
              go_wp2_with fail
              refine C2.out.mono ?_
              rintro e w6 ⟨rfl, rfl⟩
              clear C2
              go_wp2_with fail
              go_roundw
              case rel => exact ⟨k + 1, _, _, by omega, by omega, by go_num, H5.out, Z3.out, HB5.out⟩
              case measure => simp [intOf]; omega
            · have Z3 := Lib.hid (HO.out.yes (j := a % 4) (t := T) (by omega) hTl HV.out rfl)
              rw [HST.out] at Z3
              clear HO HST HV
              have i3 : (0 : Int) ≤ (a : Int) % 4 := by omega
              have i4 : (a : Int) % 4 < 4 := by omega
              go_wp2_with fail
              refine C2.out.mono ?_
              rintro e w6 ⟨rfl, rfl⟩
              clear C2
              go_wp2_with fail
              go_roundw
              case rel =>
                refine ⟨k + 1, _, _, by omega, by omega, by go_num, H5.out.set _ _ rfl, Z3.out, ?_⟩
                have := blk_set HB5.out (a % 4) (.string ⟨T.toArray⟩)
                rw [scells_set] at this
                exact this
              case measure => simp [intOf]; omega
          · have Z3 := Lib.hid (HO.out.no (j := a % 4) (t := T) (by omega) hTl (by rw [List.getElem?_eq_none (by omega)]; simp))
            rw [HST.out] at Z3
            have i2 : ¬ (k : Int) < (ks.length : Int) := by omega
            clear HO HST
            go_wp2_with fail
            refine C2.out.mono ?_
            rintro e w6 ⟨rfl, rfl⟩
            clear C2
            go_wp2_with fail
            go_roundw
            case rel => exact ⟨k + 1, _, _, by omega, by omega, by go_num, H5.out, Z3.out, HB5.out⟩
            case measure => simp [intOf]; omega
        · have C1 := Lib.hid (HM.out.crash A1 c1 ks (HQ.out.below HM.out.below) ha)
          have HC := Lib.hid (fun i (hi : i < 4) => HO.out.crash hi)
          have hways : (k < l.length ∧ k = 20) ∨ ¬ k < l.length := by omega
          obtain ⟨st6, hst6⟩ : ∃ st6, crashS st ks = st6 := ⟨_, rfl⟩
          rw [hst6] at C1 HC
          clear hlt HM HO hst6
          rcases hways with ⟨hw2, rfl⟩ | hw2
          all_goals
            go_wp2_with fail
            refine C1.out.mono ?_
            rintro e w6 ⟨rfl, h6, k6⟩
            have H6 := Lib.hid h6
            have HB6 := Lib.hid ((k6 g rfl).trans HB.out)
            clear h6 C1 k6 HB
            go_wp2_with fail
            go_loopw [13] (fun i wr => ∃ (q : Nat), q ≤ 4 ∧ i = .int .i64 q ∧ MineG (· = g) w wr s st6 ∧ wr.heap[g]? = some (.cells (scells wl).toArray 9)) (fun i _ => 4 - (intOf i).toNat)
            case atStart => exact ⟨0, by omega, rfl, H6.out, HB6.out⟩
            case round =>
              obtain ⟨q, hq, rfl, hm, hgb⟩ := hrel
              have HM := Lib.hid hm
              have HB := Lib.hid hgb
              clear H6 hm HB6 hgb
              by_cases hq4 : q < 4
              · obtain ⟨z1, z2⟩ := HC.out q hq4
                obtain ⟨T, hT⟩ : ∃ T, readS st6 q = T := ⟨_, rfl⟩
                have C := Lib.hid (HM.out.read q)
                rw [z2, hT] at C
                rw [hT] at z1
                have cg : wr.cell? ⟨g, q, none⟩ = some (.string ⟨T.toArray⟩) := (cell_of HB.out q).trans (by rw [List.getElem?_toArray]; exact scells_at z1)
                clear z1 z2 hT
                go_wp2_with fail
                refine C.out.mono ?_
                rintro e w7 ⟨rfl, rfl⟩
                clear C
                go_wp2_with fail
                go_roundw
                case rel => exact ⟨q + 1, by omega, by go_num, HM.out, HB.out⟩
                case measure => simp [intOf]; omega
              · obtain rfl : q = 4 := by omega
                go_wp2_with fail
                refine (fixed_any _).mono ?_
                rintro e w8 ⟨rfl, h8⟩
                have H8 := Lib.hid (HM.out.below.trans (h8.mono HM.out.below.size))
                clear h8 HM
                go_wp2
                go_ret
                exact ⟨rfl, H8.out⟩
end Go.Proofs.Ytnfnbbipmempjaa
