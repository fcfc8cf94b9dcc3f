/-
  The walk of DiskKeeps: for every input it returns true; old memory stays.
-/
import Derived.Test.YtnfnbbipmempjaaF
import Derived.Deep.QuietTactic
import Derived.BigQuiet
namespace Go.Proofs.Ytnfnbbipmempjaa
open Go.RowKit

theorem min_run (a k : Int) (c : Nat) (hc : min a k = c) (ts : Array TypeId) (t : TypeId) (w : World) : (Builtin.min_ ts t #[.int .i64 a, .int .i64 k]).run Try.prog w = .ok (.int .i64 c) w := by
  by_cases h : k < a
  · have : k = c := by omega
    subst this
    simp [Builtin.min_, Builtin.min2]
    omega
  · have : a = c := by omega
    subst this
    simp [Builtin.min_, Builtin.min2]
    omega
theorem cut_str (s r : Tx) (c : Nat) (hc : c ≤ s.length) (hr : s.take c = r) (w : World) : (Instr.slice 9 (.string ⟨s.toArray⟩) none (some (.int .i64 c)) none).run Try.prog w = .ok (.string ⟨r.toArray⟩) w := by
  have u9 := Try.underlying9
  subst hr
  go_simp
  apply ByteArray.ext
  simp [ByteArray.data_extract]
theorem cut_facts (s : Tx) (m : Nat) (k : Int) (hk : k = m) : ∃ (c : Nat) (r : Tx), Hid (s.take m = r) ∧ r.length ≤ m ∧ (∀ ts t w, (Builtin.min_ ts t #[.int .i64 s.length, .int .i64 k]).run Try.prog w = .ok (.int .i64 c) w) ∧ (∀ w, (Instr.slice 9 (.string ⟨s.toArray⟩) none (some (.int .i64 c)) none).run Try.prog w = .ok (.string ⟨r.toArray⟩) w) :=
  ⟨min s.length m, s.take m, Lib.hid rfl, by rw [List.length_take]; omega, fun ts t w => min_run _ _ _ (by omega) ts t w, fun w => cut_str s _ _ (by omega) (by rw [List.take_eq_take_iff]; omega) w⟩
theorem scells_len (xs : List Tx) : (scells xs).length = xs.length := by simp [scells]
theorem scells_at {l : List Tx} {k : Nat} {s : Tx} (h : l[k]? = some s) : (scells l)[k]? = some (.string ⟨s.toArray⟩) := by simp [scells, h]
/-- A slice of pairs of bytes. -/
def RdP (w : World) (A : Option Addr) (p : List (UInt8 × UInt8)) : Prop :=
  0 < p.length → ∃ b o, A = some ⟨b, o, none⟩ ∧ ∀ i x, p[i]? = some x → w.cell? ⟨b, o + i * 2, none⟩ = some (.int .u8 x.1.toNat) ∧ w.cell? ⟨b, o + i * 2 + 1, none⟩ = some (.int .u8 x.2.toNat)
theorem RdP.below {w w' : World} {A : Option Addr} {p : List (UInt8 × UInt8)} (h : RdP w A p) (hb : Below w.heap.size w w') : RdP w' A p := fun h0 => by
  obtain ⟨b, o, e, hc⟩ := h h0
  exact ⟨b, o, e, fun i x hi => ⟨(hb.cell (World.block_lt_of_cell? w _ (hc i x hi).1)).trans (hc i x hi).1, (hb.cell (World.block_lt_of_cell? w _ (hc i x hi).2)).trans (hc i x hi).2⟩⟩

theorem drewN_below (w : World) (n : Nat) : Below w.heap.size w (w.drewN n) := ⟨rfl, rfl, rfl, Nat.le_refl _, fun _ _ => rfl⟩
structure KpOk (l : List Tx) (k : Nat) (st : DS) : Prop where
  n : st.n = 8
  lim : st.lim = none
  cnt : st.cnt = k
  base : st.base = fun _ => []
  last : ∀ i, lastOf st.pend i = if i < k then some ((l.getD i []).take 64) else none
theorem KpOk.start (l : List Tx) : KpOk l 0 (newS 8) := ⟨rfl, rfl, rfl, rfl, fun i => by simp [newS, lastOf]⟩
theorem has_nat {st : DS} {n i : Nat} (h : st.n = n) (hi : i < n) : hasB st i = true := by unfold hasB; rw [h]; simp; omega
theorem live_none {st : DS} (h : st.lim = none) : liveB st = true := by unfold liveB; rw [h]
theorem used_none {st : DS} (h : st.lim = none) : usedS st = st := by
  unfold usedS; obtain ⟨a, b, c, d, e⟩ := st; simp only at h; subst h; rfl
theorem write_none {st : DS} {n i : Nat} {t : Tx} (hn : st.n = n) (hi : i < n) (hl : st.lim = none) (ht : t.length ≤ 64) : writeE st i t = 0 ∧ writeS st i t = pushS st i t := by
  unfold writeE writeS
  rw [has_nat hn hi, live_none hl, used_none hl]
  simp [ht]
theorem KpOk.step {l : List Tx} {k : Nat} {st : DS} {x t : Tx} (h : KpOk l k st) (hk : k < 8) (hx : l[k]? = some x) (ht : x.take 64 = t) : writeE st k t = 0 ∧ KpOk l (k + 1) (writeS st k t) := by
  have htl : t.length ≤ 64 := by rw [← ht, List.length_take]; omega
  obtain ⟨e1, e2⟩ := write_none h.n hk h.lim htl
  refine ⟨e1, ?_⟩
  rw [e2]
  refine ⟨h.n, h.lim, by simp [pushS, h.cnt], h.base, fun i => ?_⟩
  show lastOf (st.pend ++ [(k, t)]) i = _
  rw [lastOf_snoc, h.last i]
  by_cases hi : k = i
  · subst hi
    simp [List.getD, hx, ht]
  · simp only [if_neg hi]
    by_cases h2 : i < k
    · rw [if_pos h2, if_pos (by omega)]
    · rw [if_neg h2, if_neg (by omega)]
def kpB (l : List Tx) (k i : Nat) : Tx := if i < k then (l.getD i []).take 64 else []
theorem KpOk.sync {l : List Tx} {k : Nat} {st : DS} (h : KpOk l k st) : syncE st = 0 ∧ (syncS st).n = 8 ∧ (syncS st).cnt = k ∧ (syncS st).pend.length = 0 ∧ (syncS st).base = kpB l k := by
  unfold syncE syncS
  rw [live_none h.lim, used_none h.lim]
  refine ⟨rfl, h.n, h.cnt, rfl, ?_⟩
  funext i
  show doL st.base st.pend i = _
  unfold doL kpB
  rw [h.last i, h.base]
  by_cases h2 : i < k <;> simp [h2]
structure AfOk (b : Nat → Tx) (m j : Nat) (st : DS) : Prop where
  n : st.n = 8
  lim : st.lim = some (m - j)
  cnt : st.cnt ≤ 8 + j
  base : st.base = b
theorem AfOk.yes {b : Nat → Tx} {m j i : Nat} {st : DS} {t : Tx} (h : AfOk b m j st) (hi : i < 8) (ht : t.length ≤ 64) (hj : j < m) : writeE st i t = 0 ∧ AfOk b m (j + 1) (writeS st i t) := by
  have hl : liveB st = true := by
    unfold liveB; rw [h.lim]
    obtain ⟨q, hq⟩ : ∃ q, m - j = q + 1 := ⟨m - j - 1, by omega⟩
    rw [hq]; rfl
  unfold writeE writeS
  rw [has_nat h.n hi, hl]
  simp only [ht, if_true]
  refine ⟨trivial, h.n, ?_, by have := h.cnt; simp [pushS, usedS]; omega, h.base⟩
  show st.lim.map (· - 1) = _
  rw [h.lim]; simp; omega
theorem AfOk.no {b : Nat → Tx} {m j i : Nat} {st : DS} {t : Tx} (h : AfOk b m j st) (hi : i < 8) (ht : t.length ≤ 64) (hj : ¬ j < m) : writeE st i t = 8 ∧ AfOk b m (j + 1) (writeS st i t) := by
  have hl : liveB st = false := by
    unfold liveB; rw [h.lim, show m - j = 0 by omega]; rfl
  unfold writeE writeS
  rw [has_nat h.n hi, hl]
  simp only [ht, if_true]
  exact ⟨by simp, h.n, by simp [h.lim]; omega, by have := h.cnt; simp; omega, h.base⟩
theorem AfOk.crash {b : Nat → Tx} {m j : Nat} {st : DS} (h : AfOk b m j st) : (crashS st []).n = 8 ∧ (crashS st []).base = b ∧ (crashS st []).pend = [] := by
  refine ⟨h.n, ?_, rfl⟩
  show doL st.base (keptL st.pend []) = b
  rw [kept_none, doL_nil, h.base]
theorem read_still {st : DS} {n i : Nat} (hn : st.n = n) (hp : st.pend = []) (hi : i < n) : readS st i = st.base i ∧ readE st i = 0 := by
  unfold readS readE
  rw [has_nat hn hi, hp, doL_nil]
  exact ⟨rfl, rfl⟩

set_option maxRecDepth 100000 in
set_option maxHeartbeats 4000000 in
theorem diskKeeps_walk (A0 A1 : Option Addr) (c0 c1 : Nat) (l : List Tx) (af : List (UInt8 × UInt8)) (lim : Int) (w : World) (hr : RdS w A0 l) (hq : RdP w A1 af) (hl : l.length ≤ 9223372036854775807) (ha : af.length ≤ 9223372036854775807) (hs : ∀ x ∈ l, x.length ≤ 9223372036854775807)
    (m1 : -9223372036854775808 ≤ lim) (m2 : lim ≤ 9223372036854775807) :
    Calls Try.prog 4 #[.slice A0 l.length c0, .slice A1 af.length c1, .int .i64 lim] w fun e w' => e = .returned (.bool true) ∧ Below w.heap.size w w' := by
  have HR := Lib.hid hr
  have HQ := Lib.hid hq
  have HS := Lib.hid hs
  clear hr hq hs
  go_enter Try.func4, Try.ntmps4
  go_wp2_with fail
  refine (Mine.new w 8 (by omega) (by omega)).mono ?_
  rintro e w1 ⟨s, rfl, h1⟩
  have H1 := Lib.hid h1
  clear h1
  go_wp2_with fail
  go_loopw [9] (fun i wr => ∃ (k : Nat) (st : DS), k ≤ l.length ∧ k ≤ 8 ∧ i = .int .i64 k ∧ Mine w wr s st ∧ KpOk l k st) (fun i _ => l.length - (intOf i).toNat)
  case atStart => exact ⟨0, newS 8, Nat.zero_le _, by omega, rfl, H1.out, KpOk.start l⟩
  case round =>
    obtain ⟨k, st, hk, hk8, rfl, hm, ho⟩ := hrel
    clear H1
    have HM := Lib.hid hm
    have HO := Lib.hid ho
    clear hm ho
    by_cases hlt : k < l.length ∧ k < 8
    · obtain ⟨hlt, h8⟩ := hlt
      obtain ⟨x, hx⟩ : ∃ x, l[k]? = some x := ⟨_, List.getElem?_eq_getElem hlt⟩
      obtain ⟨b, o, rfl, hcell⟩ := HR.out.below HM.out.below (by rw [scells_len]; omega)
      have cx := hcell k _ (scells_at hx)
      have hxl := HS.out x (List.mem_of_getElem? hx)
      obtain ⟨c, t, HT, ht, e1, e2⟩ := cut_facts x 64 64 rfl
      obtain ⟨z1, z2⟩ := HO.out.step h8 hx HT.out
      have hc : st.cnt < 1000 := by rw [HO.out.cnt]; omega
      have C := Lib.hid (fun (w9 : World) (h9 : Mine w w9 s st) => h9.write (k : Int) t hc (by omega))
      rw [z1] at C
      have Z2 := Lib.hid z2
      have i1 : (k : Int) < (l.length : Int) := by omega
      clear hx hcell z1 z2 HO
      go_wp2_with fail
      go_still_tail 13, (by kernel_rfl)
      change wpList _ _ _ _ _ wr.drew
      have HM2 : Hid (Mine w wr.drew s st) := HM.out.kp (Below.refl _ _).drew
      generalize wr.drew = w2 at *
      go_wp2_with fail
      refine (C.out _ HM2.out).mono ?_
      rintro e w3 ⟨rfl, h3⟩
      have H3 := Lib.hid h3
      clear h3 HM HM2 cx e1 e2 C
      go_wp2_with fail
      go_roundw
      case rel => exact ⟨k + 1, _, by omega, by omega, by go_num, H3.out, Z2.out⟩
      case measure => simp [intOf]; omega
    · have HE : Hid (∀ i, i < 8 → (i < k ↔ i < l.length)) := fun i hi => by omega
      obtain ⟨z1, z2, z3, z4, z5⟩ := HO.out.sync
      obtain ⟨st1, hst1⟩ : ∃ st1, syncS st = st1 := ⟨_, rfl⟩
      have C1 := Lib.hid HM.out.sync
      rw [z1, hst1] at C1
      rw [hst1] at z2 z3 z4 z5
      have Z := Lib.hid (And.intro z2 (And.intro z3 z5))
      have Z4 := Lib.hid z4
      have HB : Hid (∀ i, i < 8 → st1.base i = if i < l.length then (l.getD i []).take 64 else []) := fun i hi => by rw [z5]; unfold kpB; by_cases hq : i < k; rw [if_pos hq, if_pos ((HE.out i hi).1 hq)]; rw [if_neg hq, if_neg (fun h => hq ((HE.out i hi).2 h))]
      clear z1 z2 z3 z4 z5 hst1 HM HO
      have hways : (k < l.length ∧ k = 8) ∨ ¬ k < l.length := by omega
      clear hlt
      rcases hways with ⟨hw1, rfl⟩ | hw1
      all_goals
        go_wp2_with fail
        refine C1.out.mono ?_
        rintro e w2 ⟨rfl, h2⟩
        have H2 := Lib.hid h2
        have C2 := Lib.hid h2.pending
        rw [Z4.out] at C2
        clear h2 C1
        go_wp2_with fail
        refine C2.out.mono ?_
        rintro e w2' ⟨rfl, rfl⟩
        clear C2
        go_wp2_with fail
        refine (H2.out.limit lim m1 m2).mono ?_
        rintro e w3 ⟨rfl, h3⟩
        have H3 := Lib.hid h3
        clear h3 H2
        have A0' : AfOk st1.base lim.toNat 0 (limitS st1 lim) := ⟨Z.out.1, by simp [limitS], by have := Z.out.2.1; simp [limitS]; omega, rfl⟩
        have AH := Lib.hid A0'
        clear A0'
        generalize limitS st1 lim = st2 at *
        go_wp2_with fail
        go_loopw [10] (fun i wr => ∃ (j : Nat) (st : DS), j ≤ af.length ∧ j ≤ 20 ∧ i = .int .i64 j ∧ Mine w wr s st ∧ AfOk st1.base lim.toNat j st) (fun i _ => af.length - (intOf i).toNat)
        case atStart => exact ⟨0, st2, Nat.zero_le _, by omega, rfl, H3.out, AH.out⟩
        case round =>
          obtain ⟨j, st3, hj, hj20, rfl, hm, ho⟩ := hrel
          clear H3 AH
          have HM := Lib.hid hm
          have HO := Lib.hid ho
          clear hm ho
          by_cases hlt : j < af.length ∧ j < 20
          · obtain ⟨hlt, h20⟩ := hlt
            obtain ⟨x, hx⟩ : ∃ x, af[j]? = some x := ⟨_, List.getElem?_eq_getElem hlt⟩
            obtain ⟨b, o, rfl, hcell⟩ := HQ.out.below HM.out.below (by omega)
            obtain ⟨cx, cy⟩ := hcell j x hx
            have hx8 : x.1.toNat < 256 := x.1.toNat_lt
            obtain ⟨a, haa⟩ : ∃ a, x.1.toNat = a := ⟨_, rfl⟩
            rw [haa] at cx hx8
            have hc : st3.cnt < 1000 := by have := HO.out.cnt; omega
            have i1 : (j : Int) < (af.length : Int) := by omega
            clear hx hcell haa cy
            have em : ((a : Int) % 8) = ((a % 8 : Nat) : Int) := by omega
            by_cases hjm : (j : Int) < lim
            · have z := HO.out.yes (i := a % 8) (t := [97, 102, 116, 101, 114]) (by omega) (by decide) (by omega)
              rw [← em] at z
              have C := Lib.hid (HM.out.write ((a : Int) % 8) [97, 102, 116, 101, 114] hc (by decide))
              rw [z.1] at C
              have Z2 := Lib.hid z.2
              clear z em HO
              go_wp2_with fail
              refine C.out.mono ?_
              rintro e w5 ⟨rfl, h5⟩
              have H5 := Lib.hid h5
              clear h5 HM cx C
              go_wp2_with fail
              go_roundw
              case rel => exact ⟨j + 1, _, by omega, by omega, by go_num, H5.out, Z2.out⟩
              case measure => simp [intOf]; omega
            · have z := HO.out.no (i := a % 8) (t := [97, 102, 116, 101, 114]) (by omega) (by decide) (by omega)
              rw [← em] at z
              have C := Lib.hid (HM.out.write ((a : Int) % 8) [97, 102, 116, 101, 114] hc (by decide))
              rw [z.1] at C
              have Z2 := Lib.hid z.2
              clear z em HO
              go_wp2_with fail
              refine C.out.mono ?_
              rintro e w5 ⟨rfl, h5⟩
              have H5 := Lib.hid h5
              clear h5 HM cx C
              go_wp2_with fail
              go_roundw
              case rel => exact ⟨j + 1, _, by omega, by omega, by go_num, H5.out, Z2.out⟩
              case measure => simp [intOf]; omega
          · obtain ⟨z1, z2, z3⟩ := HO.out.crash
            obtain ⟨st4, hst4⟩ : ∃ st4, crashS st3 [] = st4 := ⟨_, rfl⟩
            have C1 := Lib.hid (HM.out.crash none 0 [] (fun h => absurd h (by simp [bcells])) (by decide))
            rw [hst4] at C1 z1 z2 z3
            have Z6 := Lib.hid (And.intro z1 (And.intro z2 z3))
            clear z1 z2 z3 hst4 HM HO
            have hways : (j < af.length ∧ j = 20) ∨ ¬ j < af.length := by omega
            clear hlt
            rcases hways with ⟨hw2, rfl⟩ | hw2
            all_goals
              go_wp2_with fail
              refine C1.out.mono ?_
              rintro e w6 ⟨rfl, h6⟩
              have H6 := Lib.hid h6
              clear h6 C1
              go_wp2_with fail
              go_loopw [12] (fun i wr => ∃ (q : Nat), q ≤ 8 ∧ i = .int .i64 q ∧ Mine w wr s st4) (fun i _ => 8 - (intOf i).toNat)
              case atStart => exact ⟨0, by omega, rfl, H6.out⟩
              case round =>
                obtain ⟨q, hq, rfl, hm⟩ := hrel
                have HM := Lib.hid hm
                clear H6 hm
                by_cases hq8 : q < 8
                · have zz := read_still Z6.out.1 Z6.out.2.2 hq8
                  have hb := HB.out q hq8
                  have C := Lib.hid (HM.out.read q)
                  rw [zz.1, zz.2, Z6.out.2.1, hb] at C
                  by_cases hql : q < l.length
                  · rw [if_pos hql] at C
                    obtain ⟨x, hx⟩ : ∃ x, l[q]? = some x := ⟨_, List.getElem?_eq_getElem hql⟩
                    rw [show l.getD q [] = x by simp [List.getD, hx]] at C
                    obtain ⟨b, o, rfl, hcell⟩ := HR.out.below HM.out.below (by rw [scells_len]; omega)
                    have cx := hcell q _ (scells_at hx)
                    have hxl := HS.out x (List.mem_of_getElem? hx)
                    obtain ⟨c, t, HT, ht, e1, e2⟩ := cut_facts x 64 64 rfl
                    rw [HT.out] at C
                    have i1 : (q : Int) < (l.length : Int) := by omega
                    clear hx hcell zz hb HT
                    go_wp2_with fail
                    refine C.out.mono ?_
                    rintro e w7 ⟨rfl, rfl⟩
                    clear C
                    go_wp2_with fail
                    go_quiet (fail)
                    go_wp2_with fail
                    go_roundw
                    case rel => exact ⟨q + 1, by omega, by go_num, HM.out.kp (drewN_below _ _)⟩
                    case measure => simp [intOf]; omega
                  · first
                    | exact absurd (show q < l.length by omega) hql
                    | (rw [if_neg hql] at C
                       clear zz hb
                       go_wp2_with fail
                       refine C.out.mono ?_
                       rintro e w7 ⟨rfl, rfl⟩
                       clear C
                       go_wp2_with fail
                       go_roundw
                       case rel => exact ⟨q + 1, by omega, by go_num, HM.out⟩
                       case measure => simp [intOf]; omega)
                · obtain rfl : q = 8 := by omega
                  have C := Lib.hid HM.out.pending
                  rw [show st4.pend.length = 0 by rw [Z6.out.2.2]; rfl] at C
                  go_wp2_with fail
                  refine C.out.mono ?_
                  rintro e w7 ⟨rfl, rfl⟩
                  clear C
                  go_wp2_with fail
                  refine (fixed_any _).mono ?_
                  rintro e w8 ⟨rfl, h8⟩
                  have H8 := Lib.hid (HM.out.below.trans (h8.mono HM.out.below.size))
                  clear h8 HM
                  go_wp2
                  go_ret
                  exact ⟨rfl, H8.out⟩
end Go.Proofs.Ytnfnbbipmempjaa
