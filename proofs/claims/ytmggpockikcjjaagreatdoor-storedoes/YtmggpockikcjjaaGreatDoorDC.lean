/-
  Contracts of each (a method value called for every write), settle, Sync and Limit.
-/
import Derived.Test.YtmggpockikcjjaaGreatDoorDB
namespace Go.Proofs.YtmggpockikcjjaaGreatDoor.Dsk
open Go.RowKit

def putF (f : Nat → Option Tx) (p : List Wt) (i : Nat) : Option Tx := match lastOf p i with | some t => some t | none => f i
theorem putF_nil (f : Nat → Option Tx) : putF f [] = f := by funext i; rfl
theorem putF_snoc (f : Nat → Option Tx) (p : List Wt) (x : Wt) : (fun i => if x.1 = i then some x.2 else putF f p i) = putF f (p ++ [x]) := by
  funext i
  unfold putF
  rw [lastOf_snoc]
  by_cases h : x.1 = i <;> simp [h]
theorem putF_base {f : Nat → Option Tx} {b : Nat → Tx} (h : ∀ i, b i = (f i).getD []) (p : List Wt) (i : Nat) : doL b p i = (putF f p i).getD [] := by
  unfold doL putF
  cases lastOf p i with
  | some t => rfl
  | none => simp [h]
theorem Dk.row_ne {w : World} {s : Nat} {F : Nat → Prop} {st : DS} {set : Bool} {left : Int} {m1 m2 : Nat} {A : Option Addr} {c : Nat} {f1 f2 : Nat → Option Tx} {N1 N2 : Nat} (d : Dk w s F st set left m1 m2 A c f1 f2 N1 N2) {b : Nat} (hb : rowB A = some b) : b ≠ s := fun e => by
  subst e
  obtain ⟨_, cur, q, _⟩ := OwnR.block d.own hb
  rw [d.blk] at q
  simp at q
theorem take_snoc {α : Type} {p : List α} {k : Nat} {x : α} (h : p[k]? = some x) : p.take k ++ [x] = p.take (k + 1) := by rw [List.take_add_one, h]; rfl
theorem RdW.kpm {w w' : World} {A : Option Addr} {p : List Wt} {m N : Nat} {f : Nat → Option Tx} (h : RdW w A p) (hk : Kp (· = m) w w') (hm : MapIs w m N f) : RdW w' A p := fun h0 => by
  obtain ⟨b, o, rfl, hc⟩ := h h0
  obtain ⟨es, clk, hmb⟩ := hm.block
  have hb : ∀ i v, w.cell? ⟨b, i, none⟩ = some v → w'.cell? ⟨b, i, none⟩ = some v := fun i v hv =>
    (World.cell?_of_block (hk.block b (World.block_lt_of_cell? w _ hv) (fun e => by subst e; simp [World.cell?, hmb] at hv))).trans hv
  exact ⟨b, o, rfl, fun i x hi => ⟨hb _ _ (hc i x hi).1, hb _ _ (hc i x hi).2⟩⟩
theorem MapIs.set {w : World} {m N : Nat} {f : Nat → Option Tx} (h : MapIs w m N f) (p : Addr) (v : Value) (hp : m ≠ p.block) : MapIs (w.setCell p v) m N f := h.of_block (blk_set_far p v hp)

set_option maxRecDepth 100000 in
set_option maxHeartbeats 1000000 in
theorem each_any (A : Option Addr) (c m N : Nat) (p : List Wt) (f : Nat → Option Tx) (w : World) (hr : RdW w A p) (hm : MapIs w m N f) (hp : ∀ x ∈ p, x.1 < 4096 ∧ x.2.length ≤ 64) (hN : N + p.length ≤ 10000) :
    Calls Tryz.prog 51 #[.slice A p.length c, .func (.func 52) #[.map (some m)] #[]] w fun e w' => e = .returned (.tuple #[]) ∧ MapIs w' m (N + p.length) (putF f p) ∧ Kp (· = m) w w' := by
  have HP := Lib.hid hp
  clear hp
  go_enter Tryz.func51, Tryz.ntmps51
  go_wp2_with fail
  go_loopw [8] (fun i wr => ∃ k : Nat, k ≤ p.length ∧ i = .int .i64 k ∧ MapIs wr m (N + k) (putF f (p.take k)) ∧ Kp (· = m) w wr ∧ RdW wr A p) (fun i _ => p.length - (intOf i).toNat)
  case atStart => exact ⟨0, Nat.zero_le _, rfl, hm, Kp.refl _ _, hr⟩
  case round =>
    obtain ⟨k, hk, rfl, hmk, hkp, hrk⟩ := hrel
    clear hm hr
    by_cases hlt : k < p.length
    · obtain ⟨b, o, rfl, hcell⟩ := hrk (by omega)
      obtain ⟨x, hx⟩ : ∃ x, p[k]? = some x := ⟨_, List.getElem?_eq_getElem hlt⟩
      obtain ⟨c1, c2⟩ := hcell k x hx
      obtain ⟨x1, x2⟩ := HP.out x (List.mem_of_getElem? hx)
      have hml := hmk.lt
      have HS := Lib.hid (putF_snoc f (p.take k) x)
      rw [take_snoc hx] at HS
      have HR := Lib.hid hrk
      have i1 : (k : Int) < (p.length : Int) := by omega
      clear hx hcell hrk
      obtain ⟨j, s⟩ := x
      simp only at c1 c2 x1 x2 HS
      go_wp2_with fail
      refine (put_any m (N + k) j s _ _ (hmk.alloc _) x1 x2 (by omega)).mono ?_
      rintro e w' ⟨rfl, hm', hk'⟩
      rw [HS.out] at hm'
      have hk2 := (Kp.refl (· = m) wr).alloc (.cells #[.int .i64 j, .string ⟨s.toArray⟩] 75)
      have hk3 := hk2.trans hk' (fun _ _ h => h)
      have hr' := HR.out.kpm hk3 hmk
      have hk4 := hkp.trans hk3 (fun _ _ h => h)
      have H4 := Lib.hid hk4
      have H5 := Lib.hid hm'
      have H6 := Lib.hid hr'
      clear hk2 hk' hk3 hr' hk4 hm' HR hmk hkp c1 c2
      go_wp2
      go_roundw
      case rel => exact ⟨k + 1, by omega, by go_num, H5.out, H4.out, H6.out⟩
      case measure => simp [intOf]; omega
    · obtain rfl : k = p.length := by omega
      rw [List.take_length] at hmk
      go_wp2
      go_end0
      exact ⟨rfl, hmk, hkp⟩

set_option maxRecDepth 100000 in
set_option maxHeartbeats 1000000 in
theorem settle_any (B : Option Addr) (cB s : Nat) (q : List Wt) (F : Nat → Prop) (st : DS) (w : World) (h : DiskAt w s F st) (hr : RdW w B q) (hq : ∀ x ∈ q, x ∈ st.pend) (hl : q.length ≤ st.pend.length) :
    Calls Tryz.prog 34 #[.pointer (some ⟨s, 0, none⟩), .slice B q.length cB] w (DPost w s F (settleS st q) (.tuple #[])) := by
  obtain ⟨set, left, m1, m2, A, c, f1, f2, N1, N2, d⟩ := h
  obtain ⟨⟨_, _, _, c3, _, _⟩, _⟩ := dcell d.blk
  have hn := d.ok.n
  have hc := d.ok.cnt
  have hn1 := d.n1
  have C := Lib.hid (each_any B cB m1 N1 q f1 w hr d.syn (fun x hx => by have := d.ok.pend x (hq x hx); omega) (by omega))
  have D := Lib.hid d
  have HQ := Lib.hid hq
  clear d hr hq hn hc hn1
  have hmm := @run_makeMap Tryz.prog
  have hmf : ∀ (fn : Fn) (first cap : Array Value) (w : World), (Instr.makeFunc fn first cap).run Tryz.prog w = .ok (.func fn first cap) w := fun _ _ _ _ => rfl
  go_enter Tryz.func34, Tryz.ntmps34
  go_wp2_with fail
  refine C.out.mono ?_
  rintro e w1 ⟨rfl, hm1, hk1⟩
  have hs1 : s ≠ m1 := (D.out.syn.ne_cells D.out.blk).symm
  have hb1 := hk1.keep D.out.blk hs1
  have H1 := Lib.hid hm1
  have H2 := Lib.hid hk1
  have hlt := lt_of_blk hb1
  obtain ⟨⟨k0, k1, k2, k3, k4, k5⟩, kf⟩ := dcell hb1
  have kf4 := kf 4
  have kf5 := kf 5
  have HB := Lib.hid hb1
  have hne := Lib.hid hs1
  clear hm1 hk1 hb1 c3 C kf hs1
  go_wp2
  go_end0
  have d := D.out
  refine ⟨rfl, ?_, fun x => F x ∨ x = w1.heap.size, ?_, fun x hx => ?_⟩
  · exact ((((H2.out.mono (fun x hx => by subst hx; exact d.F1)).setCell (p := ⟨s, 4, none⟩) (.inl d.F0) _)).setCell (p := ⟨s, 5, none⟩) (.inl d.F0) _).alloc _
  · refine ⟨set, left, m1, w1.heap.size, none, 0, putF f1 q, fun _ => none, N1 + q.length, 0, ?_, d.lim, d.l1, d.l2, ?_, ?_, ?_, fun i => putF_base d.bs q i, fun _ => rfl, World.ownsRow_nil _ _ _ _, .inl d.F0, .inl d.F1, .inr rfl, fun b hb => by simp [rowB] at hb, ?_, Nat.zero_le _, d.ok.settle HQ.out⟩
    · have := blk_alloc (blk_set (blk_set HB.out 4 (.map (some w1.heap.size))) 5 (.slice none 0 0)) (.map #[] 0)
      exact this
    · exact ((H1.out.set ⟨s, 4, none⟩ _ (Ne.symm hne.out)).set ⟨s, 5, none⟩ _ (Ne.symm hne.out)).alloc _
    · have := MapIs.made ((w1.setCell ⟨s, 4, none⟩ (.map (some w1.heap.size))).setCell ⟨s, 5, none⟩ (.slice none 0 0))
      rw [show ((w1.setCell ⟨s, 4, none⟩ (.map (some w1.heap.size))).setCell ⟨s, 5, none⟩ (.slice none 0 0)).heap.size = w1.heap.size by simp] at this
      exact this
    · have := H1.out.lt; omega
    · have := d.n1; simp [settleS]; omega
  · rcases hx with hx | rfl
    · exact .inl hx
    · exact .inr H2.out.size

theorem lim_use {set : Bool} {left : Int} {l : Option Nat} (h : LimIs set left l) (hs : set = true) (_h1 : 1 ≤ left) : LimIs set (left - 1) (l.map (· - 1)) := by
  rcases h with ⟨h, _⟩ | ⟨h, rfl⟩
  · rw [hs] at h; cases h
  · exact .inr ⟨h, by simp⟩
theorem live_no {set : Bool} {left : Int} {st : DS} (h : LimIs set left st.lim) (hs : set = false) : liveB st = true ∧ usedS st = st := by
  rcases h with ⟨_, h⟩ | ⟨h, _⟩
  · unfold liveB usedS
    rw [h]
    refine ⟨rfl, ?_⟩
    obtain ⟨a, b, c, d, e⟩ := st
    simp only at h
    subst h
    rfl
  · rw [hs] at h; cases h
theorem live_out {set : Bool} {left : Int} {st : DS} (h : LimIs set left st.lim) (hs : set = true) (h1 : left < 1) : liveB st = false := by
  rcases h with ⟨h, _⟩ | ⟨_, h⟩
  · rw [hs] at h; cases h
  · unfold liveB
    rw [h, show left.toNat = 0 by omega]
    rfl
theorem live_yes {set : Bool} {left : Int} {st : DS} (h : LimIs set left st.lim) (hs : set = true) (h1 : 1 ≤ left) : liveB st = true := by
  rcases h with ⟨h, _⟩ | ⟨_, h⟩
  · rw [hs] at h; cases h
  · unfold liveB
    rw [h]
    obtain ⟨k, hk⟩ : ∃ k, left.toNat = k + 1 := ⟨left.toNat - 1, by omega⟩
    rw [hk]
    rfl
/-- use, in a disk's words. -/
theorem use_disk (s : Nat) (F : Nat → Prop) (st : DS) (w : World) (h : DiskAt w s F st) :
    Calls Tryz.prog 58 #[.pointer (some ⟨s, 0, none⟩)] w (DPost w s F (if liveB st then usedS st else st) (.bool (liveB st))) := by
  have h0 := h
  obtain ⟨set, left, m1, m2, A, c, f1, f2, N1, N2, d⟩ := h
  obtain ⟨⟨c0, c1, _, _, _, _⟩, f⟩ := dcell d.blk
  refine (use_any s set left w c0 c1 (f 1) d.l1 d.l2).mono ?_
  rintro e w' (⟨h1, rfl, rfl⟩ | ⟨h1, h2, rfl, rfl⟩ | ⟨h1, h2, rfl, rfl⟩)
  · obtain ⟨q1, q2⟩ := live_no d.lim h1
    rw [q1, q2, if_pos rfl]
    exact ⟨rfl, Kp.refl _ _, F, h0, fun x hx => .inl hx⟩
  · rw [live_out d.lim h1 h2, if_neg (by simp)]
    exact ⟨rfl, Kp.refl _ _, F, h0, fun x hx => .inl hx⟩
  · rw [live_yes d.lim h1 h2, if_pos rfl]
    have hne1 := d.syn.ne_cells d.blk
    have hne2 := d.ahd.ne_cells d.blk
    have hb := blk_set d.blk 1 (.int .i64 (left - 1))
    refine ⟨rfl, (Kp.refl _ _).setCell (.inl d.F0) _, F, ⟨set, left - 1, m1, m2, A, c, f1, f2, N1, N2, hb, lim_use d.lim h1 h2, by have := d.l1; omega, by have := d.l2; omega, d.syn.set _ _ hne1, d.ahd.set _ _ hne2, d.ne, d.bs, d.la, ?_, d.F0, d.F1, d.F2, d.F3, d.n1, d.n2, d.ok.used⟩, fun x hx => .inl hx⟩
    refine OwnR.kp (F := (· = s)) d.own ((Kp.refl (· = s) w).setCell (p := ⟨s, 1, none⟩) (.inl rfl) _) (fun b hb => d.row_ne hb)
theorem limit_disk (s : Nat) (n : Int) (F : Nat → Prop) (st : DS) (w : World) (h : DiskAt w s F st) (h1 : -9223372036854775808 ≤ n) (h2 : n ≤ 9223372036854775807) :
    Calls Tryz.prog 20 #[.pointer (some ⟨s, 0, none⟩), .int .i64 n] w (DPost w s F (limitS st n) (.tuple #[])) := by
  obtain ⟨set, left, m1, m2, A, c, f1, f2, N1, N2, d⟩ := h
  obtain ⟨⟨c0, c1, _, _, _, _⟩, f⟩ := dcell d.blk
  refine (limit_any s n _ _ w c0 c1 (f 0) (f 1)).mono ?_
  rintro e w' ⟨rfl, rfl⟩
  have hne1 := d.syn.ne_cells d.blk
  have hne2 := d.ahd.ne_cells d.blk
  have hb := blk_set (blk_set d.blk 0 (.bool true)) 1 (.int .i64 n)
  refine ⟨rfl, ((Kp.refl _ _).setCell (.inl d.F0) _).setCell (.inl d.F0) _, F, ⟨true, n, m1, m2, A, c, f1, f2, N1, N2, hb, .inr ⟨rfl, rfl⟩, h1, h2, (d.syn.set _ _ hne1).set _ _ hne1, (d.ahd.set _ _ hne2).set _ _ hne2, d.ne, d.bs, d.la, ?_, d.F0, d.F1, d.F2, d.F3, d.n1, d.n2, d.ok.lim _⟩, fun x hx => .inl hx⟩
  refine OwnR.kp (F := (· = s)) d.own (((Kp.refl (· = s) w).setCell (p := ⟨s, 0, none⟩) (.inl rfl) _).setCell (p := ⟨s, 1, none⟩) (.inl rfl) _) (fun b hb => d.row_ne hb)

set_option maxHeartbeats 1000000 in
theorem sync_disk (s : Nat) (F : Nat → Prop) (st : DS) (w : World) (h : DiskAt w s F st) :
    Calls Tryz.prog 41 #[.pointer (some ⟨s, 0, none⟩)] w (DPost w s F (syncS st) (.int .i64 (syncE st))) := by
  have C := Lib.hid (use_disk s F st w h)
  clear h
  unfold syncS syncE
  cases hl : liveB st
  · rw [hl] at C
    simp only [Bool.false_eq_true, if_false] at C ⊢
    clear hl
    go_enter Tryz.func41, Tryz.ntmps41
    go_wp2_with fail
    refine C.out.mono ?_
    rintro e w1 ⟨rfl, hk, hd⟩
    have H := Lib.hid (And.intro hk hd)
    clear hk hd
    go_wp2
    go_ret
    exact ⟨rfl, H.out.1, H.out.2⟩
  · rw [hl] at C
    simp only [if_true] at C ⊢
    clear hl
    go_enter Tryz.func41, Tryz.ntmps41
    go_wp2_with fail
    refine C.out.mono ?_
    rintro e w1 ⟨rfl, hk, F1, hd, hF⟩
    have hd0 := hd
    obtain ⟨set, left, m1, m2, A, c, f1, f2, N1, N2, d⟩ := hd0
    obtain ⟨⟨_, _, _, _, _, c5⟩, _⟩ := dcell d.blk
    have hr := OwnR.rdW d.own
    have C2 := Lib.hid (settle_any A c s st.pend F1 (usedS st) w1 hd hr (fun x hx => hx) (Nat.le_refl _))
    have HK := Lib.hid (And.intro hk hF)
    rw [show (usedS st).pend = st.pend from rfl] at c5
    clear d hd hr hk hF C
    go_wp2_with fail
    refine C2.out.mono ?_
    rintro e w2 ⟨rfl, hk2, F2, hd2, hF2⟩
    have H := Lib.hid (And.intro hk2 hd2)
    clear hk2 hd2 c5
    go_wp2
    go_ret
    obtain ⟨hk, hF⟩ := HK.out
    have hsz := hk.size
    refine ⟨rfl, hk.trans H.out.1 (fun x hx h1 => by rcases hF x h1 with q | q; exact q; omega), F2, H.out.2, fun x hx => ?_⟩
    rcases hF2 x hx with q | q
    · exact hF x q
    · exact .inr (by omega)
end Go.Proofs.YtmggpockikcjjaaGreatDoor.Dsk
