/-
  Contracts of Write (all its ways) and of Crash.
-/
import Derived.Test.YtmggpockikcjjaaGreatDoorDD
namespace Go.Proofs.YtmggpockikcjjaaGreatDoor.Dsk
open Go.RowKit

theorem DPost.same {w : World} {s : Nat} {F : Nat → Prop} {st : DS} (h : DiskAt w s F st) (v : Value) : DPost w s F st v (.returned v) w := ⟨rfl, Kp.refl _ _, F, h, fun _ hx => .inl hx⟩
set_option maxHeartbeats 1000000 in
theorem write_disk (i0 : Int) (s : Nat) (t : Tx) (F : Nat → Prop) (st : DS) (w : World) (h : DiskAt w s F st) (hcnt : st.cnt < 1000) (htl : t.length ≤ 1000) :
    Calls Tryz.prog 43 #[.pointer (some ⟨s, 0, none⟩), .int .i64 i0, .string ⟨t.toArray⟩] w (DPost w s F (writeS st i0 t) (.int .i64 (writeE st i0 t))) := by
  have C1 : Hid (Calls Tryz.prog 59 #[.pointer (some ⟨s, 0, none⟩), .int .i64 i0] w fun e w' => e = .returned (.bool (hasB st i0)) ∧ w' = w) := by
    obtain ⟨set, left, m1, m2, A, c, f1, f2, N1, N2, d⟩ := h
    obtain ⟨⟨_, _, c2, _, _, _⟩, _⟩ := dcell d.blk
    exact has_any i0 s st.n w c2
  have H := Lib.hid h
  cases hb : hasB st i0
  · have e1 : writeS st i0 t = st := by simp [writeS, hb]
    have e2 : writeE st i0 t = 1 := by simp [writeE, hb]
    rw [e1, e2]
    rw [hb] at C1
    clear e1 e2 hb h
    go_enter Tryz.func43, Tryz.ntmps43
    go_wp2_with fail
    refine C1.out.mono ?_
    rintro e w0 ⟨rfl, rfl⟩
    go_wp2
    go_ret
    exact DPost.same H.out _
  · rw [hb] at C1
    by_cases hl : t.length ≤ 64
    · cases hv : liveB st
      · have e1 : writeS st i0 t = st := by simp [writeS, hb, hl, hv]
        have e2 : writeE st i0 t = 8 := by simp [writeE, hb, hl, hv]
        rw [e1, e2]
        have C2 := Lib.hid (use_disk s F st w h)
        rw [hv, if_neg (by simp)] at C2
        have e64 : ¬ (64 : Int) < (t.length : Int) := by omega
        clear e1 e2 hb h hv hl
        go_enter Tryz.func43, Tryz.ntmps43
        go_wp2_with fail
        refine C1.out.mono ?_
        rintro e w0 ⟨rfl, rfl⟩
        go_wp2_with fail
        refine C2.out.mono ?_
        rintro e w1 ⟨rfl, hk, hd⟩
        have H2 := Lib.hid (And.intro hk hd)
        clear hk hd
        go_wp2
        go_ret
        exact ⟨rfl, H2.out.1, H2.out.2⟩
      · obtain ⟨h1, h2⟩ := hasB_is hb
        have e1 : writeS st i0 t = pushS (usedS st) i0.toNat t := by simp [writeS, hb, hl, hv]
        have e2 : writeE st i0 t = 0 := by simp [writeE, hb, hl, hv]
        rw [e1, e2]
        have := write_yes i0.toNat s t F st w h h2 hl hv hcnt
        rw [show ((i0.toNat : Nat) : Int) = i0 by omega] at this
        exact this
    · have e1 : writeS st i0 t = st := by simp [writeS, hb, hl]
      have e2 : writeE st i0 t = 3 := by simp [writeE, hb, hl]
      rw [e1, e2]
      have e64 : (64 : Int) < (t.length : Int) := by omega
      clear e1 e2 hb h hl
      go_enter Tryz.func43, Tryz.ntmps43
      go_wp2_with fail
      refine C1.out.mono ?_
      rintro e w0 ⟨rfl, rfl⟩
      go_wp2
      go_ret
      exact DPost.same H.out _

theorem DiskAt.lims {w : World} {s : Nat} {F : Nat → Prop} {st : DS} (h : DiskAt w s F st) (b : Bool) (n : Int) (l : Option Nat) (hl : LimIs b n l) (h1 : -9223372036854775808 ≤ n) (h2 : n ≤ 9223372036854775807) :
    DiskAt ((w.setCell ⟨s, 0, none⟩ (.bool b)).setCell ⟨s, 1, none⟩ (.int .i64 n)) s F { st with lim := l } ∧ Kp F w ((w.setCell ⟨s, 0, none⟩ (.bool b)).setCell ⟨s, 1, none⟩ (.int .i64 n)) := by
  obtain ⟨set, left, m1, m2, A, c, f1, f2, N1, N2, d⟩ := h
  have hne1 := d.syn.ne_cells d.blk
  have hne2 := d.ahd.ne_cells d.blk
  have hb := blk_set (blk_set d.blk 0 (.bool b)) 1 (.int .i64 n)
  refine ⟨⟨b, n, m1, m2, A, c, f1, f2, N1, N2, hb, hl, h1, h2, (d.syn.set _ _ hne1).set _ _ hne1, (d.ahd.set _ _ hne2).set _ _ hne2, d.ne, d.bs, d.la, ?_, d.F0, d.F1, d.F2, d.F3, d.n1, d.n2, d.ok.lim _⟩, ((Kp.refl _ _).setCell (.inl d.F0) _).setCell (.inl d.F0) _⟩
  exact OwnR.kp (F := (· = s)) d.own (((Kp.refl (· = s) w).setCell (p := ⟨s, 0, none⟩) (.inl rfl) _).setCell (p := ⟨s, 1, none⟩) (.inl rfl) _) (fun b hb => d.row_ne hb)

theorem new2 (w : World) (o1 : Obj) (cs : Array Value) (ty : TypeId) (i : Nat) : ((w.alloc o1).alloc (.cells cs ty)).cell? ⟨w.heap.size + 1, i, none⟩ = cs[i]? := by
  have := cell_of (blk_new (w.alloc o1) (.cells cs ty)) i
  rwa [show (w.alloc o1).heap.size = w.heap.size + 1 by simp] at this
theorem bcells_len (l : List Bool) : (bcells l).length = l.length := by simp [bcells]
theorem bcells_at {l : List Bool} {k : Nat} {b : Bool} (h : l[k]? = some b) : (bcells l)[k]? = some (.bool b) := by simp [bcells, h]

set_option maxRecDepth 100000 in
set_option maxHeartbeats 2000000 in
theorem crash_disk (B : Option Addr) (cB s : Nat) (ks : List Bool) (F : Nat → Prop) (st : DS) (w : World) (h : DiskAt w s F st) (hr : RdB w B ks) (hks : ks.length ≤ 9223372036854775807) :
    Calls Tryz.prog 18 #[.pointer (some ⟨s, 0, none⟩), .slice B ks.length cB] w (DPost w s F (crashS st ks) (.tuple #[])) := by
  have H := Lib.hid h
  obtain ⟨set, left, m1, m2, A, c, f1, f2, N1, N2, d⟩ := h
  obtain ⟨⟨-, -, -, -, -, c5⟩, -⟩ := dcell d.blk
  have hp := OwnR.rdW d.own
  have hl1 := d.ok.len
  have hl2 := d.ok.cnt
  obtain ⟨p, hpe⟩ : ∃ p, st.pend = p := ⟨_, rfl⟩
  rw [hpe] at c5 hp hl1
  have HP := Lib.hid hpe
  clear d hpe
  go_enter Tryz.func18, Tryz.ntmps18
  go_wp2_with fail
  go_loopw [4, 12] (fun vk vi wr => ∃ (k : Nat) (E : Option Addr) (e : Nat) (q : List Wt), k ≤ p.length ∧ vi = .int .i64 k ∧ vk = .slice E q.length e ∧ Hid (keptL (p.take k) ks = q) ∧ OwnW wr E e q ∧ (∀ b, rowB E = some b → w.heap.size ≤ b) ∧ Kp NoB w wr)
    (fun _ vi _ => p.length - (intOf vi).toNat)
  case atStart => exact ⟨0, none, 0, [], Nat.zero_le _, rfl, rfl, Lib.hid rfl, World.ownsRow_nil _ _ _ _, fun b hb => by simp [rowB] at hb, kno w⟩
  case round =>
    obtain ⟨k, E, e, q, hk, rfl, rfl, HQ, hown, hE, hkp⟩ := hrel
    have hql : q.length ≤ k := by rw [← HQ.out]; exact Nat.le_trans (kept_len _ _) (by simp; omega)
    by_cases hlt : k < p.length
    · obtain ⟨b, o, rfl, hcell⟩ := hp.kp hkp (fun _ _ h => h) (by omega)
      obtain ⟨x, hx⟩ : ∃ x, p[k]? = some x := ⟨_, List.getElem?_eq_getElem hlt⟩
      obtain ⟨c1, c2⟩ := hcell k x hx
      have HS := Lib.hid (kept_step p ks k x hx)
      have i1 : (k : Int) < (p.length : Int) := by omega
      clear hx hcell
      obtain ⟨j, t⟩ := x
      simp only at c1 c2
      have hE' := Lib.hid hE
      clear hE c5
      by_cases hkl : k < ks.length
      · obtain ⟨v, hv⟩ : ∃ v, ks[k]? = some v := ⟨_, List.getElem?_eq_getElem hkl⟩
        obtain ⟨b2, o2, rfl, hcb⟩ := hr.kp hkp (fun _ _ h => h) (by rw [bcells_len]; omega)
        have c3 := hcb k _ (bcells_at hv)
        have hb2l : b2 < wr.heap.size := World.block_lt_of_cell? _ _ c3
        have i2 : (k : Int) < (ks.length : Int) := by omega
        rw [hv] at HS
        clear hcb hv
        cases v
        · rw [if_neg (by simp), HQ.out] at HS
          have hown' := Lib.hid (hown.kp ((kno wr).alloc (.cells #[.int .i64 j, .string ⟨t.toArray⟩] 75)) (fun _ _ h => h))
          have hkp' := Lib.hid (hkp.alloc (.cells #[.int .i64 j, .string ⟨t.toArray⟩] 75))
          clear HQ hown hkp
          go_wp2
          go_roundw
          case rel => exact ⟨k + 1, E, e, q, by omega, by go_num, rfl, HS, hown'.out, hE'.out, hkp'.out⟩
          case measure => simp [intOf]; omega
        · rw [if_pos rfl, HQ.out] at HS
          obtain ⟨r, hr0⟩ : ∃ r, q ++ [(j, t)] = r := ⟨_, rfl⟩
          rw [hr0] at HS
          have HR := Lib.hid hr0
          have hown' := Lib.hid ((hown.kp ((kno wr).alloc (.cells #[.int .i64 j, .string ⟨t.toArray⟩] 75)) (fun _ _ h => h)).kp ((kno _).alloc (.cells #[.int .i64 j, .string ⟨t.toArray⟩] 75)) (fun _ _ h => h))
          have hkp' := Lib.hid ((hkp.alloc (.cells #[.int .i64 j, .string ⟨t.toArray⟩] 75)).alloc (.cells #[.int .i64 j, .string ⟨t.toArray⟩] 75))
          clear HQ hown hkp hr0
          go_wp2_with (at_builtin; refine wpList_append_w _ rfl _ _ rfl E q.length e q rfl rfl hown'.out (wr.heap.size + 1) (j, t) rfl (new2 _ _ _ _ 0) (new2 _ _ _ _ 1) (by omega) r HR.out ?_; intro E1 e1 w3 hown3 hg3 hl3; have hk3 := Lib.hid (hkp'.out.grown hg3 (fun b hb => .inr (hE'.out b hb))); have ho3 := Lib.hid hown3; have hl4 := Lib.hid hl3; clear hown3 hg3 hl3)
          go_roundw
          case rel => 
            refine ⟨k + 1, E1, e1, r, by omega, by go_num, rfl, HS, ho3.out, fun b hb => ?_, hk3.out⟩
            rcases hl4.out b hb with q | q
            · exact hE'.out b q
            · rw [← q]; exact hkp'.out.size
          case measure => simp [intOf]; omega
      · rw [List.getElem?_eq_none (by omega), if_neg (by simp), HQ.out] at HS
        have i2 : ¬ (k : Int) < (ks.length : Int) := by omega
        have hown' := Lib.hid (hown.kp ((kno wr).alloc (.cells #[.int .i64 j, .string ⟨t.toArray⟩] 75)) (fun _ _ h => h))
        have hkp' := Lib.hid (hkp.alloc (.cells #[.int .i64 j, .string ⟨t.toArray⟩] 75))
        clear HQ hown hkp
        go_wp2
        go_roundw
        case rel => exact ⟨k + 1, E, e, q, by omega, by go_num, rfl, HS, hown'.out, hE'.out, hkp'.out⟩
        case measure => simp [intOf]; omega
    · obtain rfl : k = p.length := by omega
      have hq := HQ.out
      rw [List.take_length] at hq
      have hd := H.out.kp hkp (fun _ _ h => h)
      have C := Lib.hid (settle_any E e s q F st wr hd (OwnR.rdW hown) (fun x hx => by rw [HP.out]; rw [← hq] at hx; exact kept_mem _ _ x hx) (by rw [HP.out, ← hq]; exact kept_len _ _))
      have HK := Lib.hid hkp
      have HQ2 := Lib.hid hq
      clear hd hown hE hkp HQ hq
      go_wp2_with fail
      refine C.out.mono ?_
      rintro e1 w1 ⟨rfl, hk1, F1, hd1, hF1⟩
      have HD := Lib.hid hd1
      have H1 := Lib.hid (And.intro hk1 hF1)
      obtain ⟨set1, left1, m11, m21, A1, cc1, f11, f21, N11, N21, d1⟩ := hd1
      obtain ⟨⟨c0, c1, -, -, -, -⟩, ff⟩ := dcell d1.blk
      have f0 := ff 0
      have f1' := ff 1
      clear d1 ff hk1 hF1 C
      go_wp2
      go_end0
      obtain ⟨z1, z2⟩ := HD.out.lims false 0 none (.inl ⟨rfl, rfl⟩) (by omega) (by omega)
      obtain ⟨y1, y2⟩ := H1.out
      have hs := HK.out.size
      have hs1 := y1.size
      have e9 : crashS st ks = { settleS st q with lim := none } := by unfold crashS; rw [HP.out, HQ2.out]
      rw [e9]
      refine ⟨rfl, ((HK.out.mono (fun _ h => h.elim)).trans y1 (fun _ _ h => h)).trans z2 (fun x hx h1 => by rcases y2 x h1 with q | q; exact q; omega), F1, z1, fun x hx => ?_⟩
      rcases y2 x hx with q | q
      · exact .inl q
      · exact .inr (by omega)
end Go.Proofs.YtmggpockikcjjaaGreatDoor.Dsk
