/-
  Package expand: call.
-/
import Derived.Test.YtmnbepapgghdaaaGreatK25
import Derived.Test.YtmnbepapgghdaaaGreatK07
namespace Go.Proofs.YtmnbepapgghdaaaGreat
open Go.RowKit



/-- What a macro answers, behind its groups. -/
def callX (most : Nat) (e : Ex) (s : By) (l : List Tok) : Ex := if e.fuel = 0 then e.note 9 s else e.burn.come most s l
theorem call_X (most : Nat) (e : Ex) (s : By) (m : Mv) : callE most e s m = match argsG e.inp m.1.toNat 0 with
    | none => e.note 10 s
    | some (x, p) => callX most (e.go p) s (fillL m.2 x) := by
  unfold callE callX
  rcases argsG e.inp m.1.toNat 0 with _ | ⟨x, p⟩ <;> rfl
theorem rdL_but {P : Nat → Prop} {t : TypeId} {w w' : World} {base c p : Nat} {A : Option Addr} {ll : List (List Tok)} (h : Pq.OwnL P t w base A c ll) (hP : ∀ b, P b → b ≠ p) (hp : p < base) (hk : ButX (some p) w w') : RdL w' A ll := fun h0 => by
  obtain ⟨g, rfl, hgb, hc⟩ := ownL_at h h0
  refine ⟨g, 0, rfl, fun i l hi => ?_⟩
  obtain ⟨B, d, h1, h2, h3⟩ := hc i l hi
  rw [Nat.zero_add]
  have hgl := World.block_lt_of_cell? w _ h1
  have hg : w'.heap[g]? = w.heap[g]? := hk g hgl fun q => by have := Option.some.inj q; omega
  refine ⟨B, d, ?_, h2.heap fun h0 a ha => hk a.block (rd_in h2 h0 a ha) fun q => hP _ (h3 h0 a ha) (Option.some.inj q)⟩
  rw [← h1]; simp only [World.cell?, hg]
theorem cell_but {w w' : World} {p : Nat} {a : Addr} {v : Value} (h : w.cell? a = some v) (hk : ButX (some p) w w') (hp : a.block ≠ p) : w'.cell? a = some v := by
  have hl := World.block_lt_of_cell? w _ h
  have hg : w'.heap[a.block]? = w.heap[a.block]? := hk a.block hl fun q => hp (Option.some.inj q)
  rw [← h]; simp only [World.cell?, hg]
/-- All but its own cells, and the row of tokens to come, is as it was. -/
structure Kw (k : Xk) (s : Xs) (w a : World) : Prop where
  but : But2 k.p (obA s.TA) w a
  size : w.heap.size ≤ a.heap.size
theorem Kw.below {k : Xk} {s : Xs} {w a b : World} (h : Kw k s w a) (hb : Below a.heap.size a b) : Kw k s w b :=
  ⟨fun i hi hp hX => (hb.block i (Nat.lt_of_lt_of_le hi h.size)).trans (h.but i hi hp hX), Nat.le_trans h.size hb.size⟩
theorem Kw.turn {k : Xk} {s : Xs} {w a b : World} (h : Kw k s w a) (hk : ButX (some k.p) a b) (hs : a.heap.size ≤ b.heap.size) : Kw k s w b :=
  ⟨fun i hi hp hX => (hk i (Nat.lt_of_lt_of_le hi h.size) fun q => hp (Option.some.inj q)).trans (h.but i hi hp hX), Nat.le_trans h.size hs⟩
theorem Kw.step {k : Xk} {s : Xs} {w a b : World} (h : Kw k s w a) (hk : But2 k.p (obA s.TA) a b) : But2 k.p (obA s.TA) w b :=
  fun i hi hp hX => (hk i (Nat.lt_of_lt_of_le hi h.size) hp hX).trans (h.but i hi hp hX)
theorem Kw.refl (k : Xk) (s : Xs) (w : World) : Kw k s w w := ⟨fun _ _ _ _ => rfl, Nat.le_refl _⟩
set_option maxRecDepth 100000 in
set_option maxHeartbeats 2000000 in
theorem xcall_s (k : Xk) (e : Ex) (n : Nat) (nm : By) (v : Mv) (B0 : Option Addr) (d0 : Nat) (w : World) (s : Xs) (hx : XR k w s e) (hsn : s.N ≤ n) (hv : getL e.ms nm = some v) (hd : 0 ≤ v.1 ∧ v.1 ≤ 9) (hi : e.inp.length ≤ 1000) (hm : k.most ≤ 1000) (hfu : k.fuel ≤ 1000)
    (hpt : PTl v.2) (hbl : v.2.length ≤ 1000) (hnm : nm.length ≤ 4000) :
    Calls Tryz.prog 81 #[.pointer (some ⟨k.p, 0, none⟩), .agg #[.string ⟨nm.toArray⟩, .int .i64 v.1, .slice B0 0 d0]] w (fun en w' => ErrPost k w n nm (callE k.most e nm v) en w' ∧ But2 k.p (obA s.TA) w w') := by
  have HZ := Lib.hid (show k.base ≤ w.heap.size by have := lt_of_blk hx.blk; have := hx.hp; omega)
  obtain ⟨par, body⟩ := v
  simp only at hd hpt hbl
  obtain ⟨j, rfl⟩ : ∃ j : Nat, par = j := ⟨par.toNat, by omega⟩
  obtain ⟨G, hG⟩ : ∃ G, callE k.most e nm ((j : Int), body) = G := ⟨_, rfl⟩
  rw [hG]
  rw [call_X] at hG
  have hj : ((j : Int)).toNat = j := by omega
  simp only [hj] at hG
  have HG := Lib.hid hG
  have HK0 := Lib.hid ((Kw.refl k s w).below (one_below w (.cells #[.string ⟨nm.toArray⟩, .int .i64 j, .slice B0 0 d0] 137)))
  have hpP := lt_of_blk hx.blk
  have b1 := one_below w (.cells #[.string ⟨nm.toArray⟩, .int .i64 j, .slice B0 0 d0] 137)
  obtain ⟨q0, q1, q2⟩ := new_three w (.string ⟨nm.toArray⟩) (.int .i64 j) (.slice B0 0 d0) 137
  have hx1 := hx.below b1
  have HB1 := Lib.hid (b1.mono HZ.out)
  obtain ⟨w1, hw1⟩ : ∃ w1, w.alloc (.cells #[.string ⟨nm.toArray⟩, .int .i64 j, .slice B0 0 d0] 137) = w1 := ⟨_, rfl⟩
  have hz1 : w1.heap.size = w.heap.size + 1 := by rw [← hw1]; simp
  rw [hw1] at hx1 HB1 q0 q1 q2 HK0
  have HKd := Lib.hid (HK0.out.below (below_drew w1))
  have HBS0 := Lib.hid (show Below w.heap.size w w1.drew by rw [← hw1]; exact bch (one_below _ _) (below_drew _))
  have c6 : w1.cell? ⟨k.p, 6, none⟩ = some (.slice s.TA s.full.length s.tc) := hx1.cell 6
  have c7 : w1.cell? ⟨k.p, 7, none⟩ = some (.int .i64 s.at_) := hx1.cell 7
  have d6 : w1.drew.cell? ⟨k.p, 6, none⟩ = some (.slice s.TA s.full.length s.tc) := c6
  have d7 : w1.drew.cell? ⟨k.p, 7, none⟩ = some (.int .i64 s.at_) := c7
  have dq1 : w1.drew.cell? ⟨w.heap.size, 1, none⟩ = some (.int .i64 j) := q1
  have hal := hx1.atl
  have hfl := hx1.flen
  have hcap := hx1.toks.cap
  have C := Pq.args_any (P := fun b => w1.heap.size ≤ b) s.TA s.tc s.full s.at_ j w1.drew hx1.toks.rd (by omega) hcap.1 hcap.2.1 (Lib.hid fun j hj => hj)
  rw [argsE_in hal (by omega), args_to s.full s.at_ j, hx1.inp] at C
  have HX1 := Lib.hid (hx1.below (below_drew w1))
  have HBd := Lib.hid (HB1.out.drew)
  have HN := Lib.hid hsn
  have HPT := Lib.hid hpt
  have HV := Lib.hid hv
  have Q0 := Lib.hid q0
  have HW1 := Lib.hid hw1
  cases hg : argsG e.inp j 0 with
  | none =>
    rw [hg] at C HG
    have C : Calls Tryz.prog 93 _ w1.drew (Pq.ArgsPost (fun b => w1.heap.size ≤ b) 27 w1.drew ([], 0, 10)) := C
    have HG : Hid (e.note 10 nm = G) := HG
    have C := Lib.hid C
    clear hx hx1 b1 hG hg hcap hpt hv hsn
    go_enter Tryz.func81, Tryz.ntmps81
    go_wp2_with fail
    go_region_law (refine step_call w1.drew (by rfl) 93 _ _ (by rfl) #[.slice s.TA s.full.length s.tc, .int .i64 s.at_, .int .i64 j] (by rfl) (enter93 _ _) (args_r C.out) ?_
                   rintro v w2 ⟨A, c, rfl, ho, hb⟩)
    all_goals
      have HB := Lib.hid (HBd.out.trans (hb.mono (show k.base ≤ w1.drew.heap.size from Nat.le_trans HZ.out HB1.out.size)))
      have HX2 := Lib.hid (HX1.out.below hb)
      have HK2 := Lib.hid (HKd.out.below hb)
      have HBS := Lib.hid (bch HBS0.out hb)
      clear ho hb
      go_wp2
      go_ret
      exact ⟨⟨e, some 10, rfl, err_some (.inr (.inr (.inr (.inr rfl)))), HB.out, ⟨s, HX2.out, HN.out⟩, HG.out, fun _ => HBS.out⟩, HK2.out.but⟩
  | some y =>
    obtain ⟨x, p⟩ := y
    rw [hg] at C HG
    have C : Calls Tryz.prog 93 _ w1.drew (Pq.ArgsPost (fun b => w1.heap.size ≤ b) 27 w1.drew (x, ((p + s.at_ : Nat) : Int), 0)) := C
    have ep : ((p + s.at_ : Nat) : Int) = (p : Int) + (s.at_ : Int) := by omega
    rw [ep] at C
    have HG : Hid (callX k.most (e.go p) nm (fillL body x) = G) := HG
    have C := Lib.hid C
    obtain ⟨hp0, hpl, hpy⟩ := args_part hg (Nat.zero_le _)
    have hxl : x.length = j := (args_le hg (Nat.zero_le _)).1
    have hfb : (fillL body x).length ≤ 1000000 := by
      have := fill_bound (B := 1000) (x := x) (fun y hy => by have := hpy y hy; omega) (by omega) body
      have : body.length * 1000 ≤ 1000 * 1000 := Nat.mul_le_mul_right _ hbl
      omega
    have HPL := Lib.hid hpl
    have HPP := Lib.hid hpP
    have hgo : (e.go p).inp.length ≤ 1000 := by simp [Ex.go]; omega
    have CB := Lib.hid (fun W (t : Xs) (hW : XR k W t (e.go p)) => xburn_s k t (e.go p) W hW hfu)
    have CF := Lib.hid (fun W (m : Nat) (hW : XW k W (e.go p).burn n) (hm1 : m ≤ 1000000) => xfits_any k (e.go p).burn n m W hW hm1 (by omega) (by show (e.go p).inp.length ≤ _; omega))
    have CG := Lib.hid (fun W (B : Option Addr) (d : Nat) (l : List Tok) (t : Xs) (hW : XR k W t (e.go p).burn) (hN : t.N ≤ n) (hr : Rd W B l) (hP : InQ (fun b => b ≠ k.p) B l.length) (hl : l.length ≤ 10000) => xbring_s k t (e.go p).burn n B d l W hW hN hr hP (by show l.length + (e.go p).inp.length ≤ _; omega))
    have CN := Lib.hid (fun W (A D : Option Addr) (c dc : Nat) (hr : Rd W A body) (hl : RdL W D x) => filled_any A D c dc body x W hr hl (by omega) (by omega) (Lib.hid HPT.out) hfb)
    have CL := Lib.hid (fun W (A D : Option Addr) (c dc : Nat) (hr : Rd W A body) (hl : RdL W D x) (hf : (fillL body x).length ≤ 190000) => fill_any A D c dc body x W hr hl (by omega) (by omega) (Lib.hid fun t ht => by have := (HPT.out t ht).2; omega) hf)
    have HFB := Lib.hid hfb
    have HXL := Lib.hid hxl
    have HGO := Lib.hid hgo
    obtain ⟨L, hL⟩ : ∃ L, fillL body x = L := ⟨_, rfl⟩
    rw [hL] at HG CN CL HFB
    clear hx hx1 b1 hG hg hcap hpt hv hsn hpy hL hfb hgo hp0 hxl
    go_enter Tryz.func81, Tryz.ntmps81
    go_wp2_with fail
    go_region_law (refine step_call w1.drew (by rfl) 93 _ _ (by rfl) #[.slice s.TA s.full.length s.tc, .int .i64 s.at_, .int .i64 j] (by rfl) (enter93 _ _) (args_r C.out) ?_
                   rintro v w2 ⟨A, c, rfl, ho, hb⟩)
    all_goals
      have HB := Lib.hid (HBd.out.trans (hb.mono (show k.base ≤ w1.drew.heap.size from Nat.le_trans HZ.out HB1.out.size)))
      have hx2 := HX1.out.below hb
      have c72 : w2.cell? ⟨k.p, 7, none⟩ = some (.int .i64 s.at_) := hx2.cell 7
      have f72 := hx2.froz 7
      have HX2 := Lib.hid (go_XR hx2 HPL.out)
      have HL2 := Lib.hid (ho.rd)
      have HK2 := Lib.hid (HKd.out.below hb)
      have HB2 := Lib.hid (HB.out.setCell hx2.hp (p := ⟨k.p, 7, none⟩) (.int .i64 ((p : Int) + (s.at_ : Int))))
      have HO2 := Lib.hid ho
      have q02 : w2.cell? ⟨w.heap.size, 0, none⟩ = some (.string ⟨nm.toArray⟩) := cell_below hb Q0.out
      have hne : w.heap.size ≠ k.p := by have := HPP.out; omega
      have HNE := Lib.hid hne
      have Q2 := Lib.hid q02
      have bs := but_set (w := w2) k.p 7 (.int .i64 ((p : Int) + (s.at_ : Int)))
      have BS := Lib.hid bs
      obtain ⟨W, hW⟩ : ∃ W, w2.setCell ⟨k.p, 7, none⟩ (.int .i64 ((p : Int) + (s.at_ : Int))) = W := ⟨_, rfl⟩
      have hsz : w2.heap.size ≤ W.heap.size := by rw [← hW]; simp [World.setCell]
      have HSZ := Lib.hid hsz
      rw [hW] at HX2 HB2 BS
      have HPW := Lib.hid (show k.p < w1.drew.heap.size from lt_of_blk HX1.out.blk)
      clear hx2 ho hb hne bs hsz
      go_wp2_with fail
      have HKW := Lib.hid (HK2.out.turn BS.out HSZ.out)
      refine (CB.out _ _ HX2.out).mono ?_
      by_cases h0 : (e.go p).fuel = 0
      · rw [if_pos h0, if_pos h0]
        have HE : Hid ((e.go p).note 9 nm = G) := Lib.hid (by rw [← HG.out]; unfold callX; rw [if_pos h0])
        rintro en w3 ⟨rfl, hb3, hx3, hk3⟩
        have HB3 := Lib.hid (HB2.out.trans hb3)
        have HX3 := Lib.hid hx3
        have HK3 := Lib.hid (HKW.out.turn hk3 hb3.size)
        unfold errV
        clear hb3 hx3 h0 hk3
        go_wp2
        go_ret
        exact ⟨⟨_, some 9, rfl, err_some (.inr (.inr (.inr (.inl rfl)))), HB3.out, ⟨_, HX3.out, HN.out⟩, HE.out, fun h => absurd h (by decide)⟩, HK3.out.but⟩
      · rw [if_neg h0, if_neg h0]
        have HE : Hid ((e.go p).burn.come k.most nm L = G) := Lib.hid (by rw [← HG.out]; unfold callX; rw [if_neg h0])
        rintro en w3 ⟨rfl, hb3, hx3, hk3⟩
        have HB3 := Lib.hid (HB2.out.trans hb3)
        have HX3 := Lib.hid hx3
        have HK3 := Lib.hid (butx_trans BS.out HSZ.out hk3)
        have HL3 := Lib.hid (rdL_but HO2.out (fun b hb => by have := HPW.out; have e : w1.drew.heap.size = w1.heap.size := rfl; omega) HPW.out HK3.out)
        have q3 : w3.cell? ⟨w.heap.size, 0, none⟩ = some (.string ⟨nm.toArray⟩) := cell_but Q2.out HK3.out HNE.out
        have HKB := Lib.hid (HKW.out.turn hk3 hb3.size)
        have hr3 := hx3
        have c53 : w3.cell? ⟨k.p, 5, none⟩ = some (.map (some k.mb)) := hr3.cell 5
        obtain ⟨B, d, hfB, hrB, -⟩ := hr3.bd nm ((j : Int), body) HV.out
        have hlook := fun q => (hr3.below (drewN_below w3 q)).bm.look1 (s := nm) und65 (zero27 _) (by omega)
        rw [hfB] at hlook
        simp only [Option.getD_some] at hlook
        have HRB := Lib.hid hrB
        unfold errV
        clear hb3 hk3 h0 hr3 hx3 hfB hrB
        go_wp2_with fail
        go_quiet (fail)
        go_wp2_with fail
        have HR4 := Lib.hid ((HRB.out).below (drewN_below w3 nq))
        have HL4 := Lib.hid (HL3.out.below (drewN_below w3 nq))
        have HX4 := Lib.hid (HX3.out.below (drewN_below w3 nq))
        have HK4 := Lib.hid (HKB.out.below (drewN_below w3 nq))
        have HB4 := Lib.hid (HB3.out.trans ((drewN_below w3 nq).mono (show k.base ≤ w3.heap.size by have := lt_of_blk HX3.out.blk; have := HX3.out.hp; omega)))
        obtain ⟨w4, hw4⟩ : ∃ w4, w3.drewN nq = w4 := ⟨_, rfl⟩
        rw [hw4] at HR4 HL4 HX4 HB4 HK4 ⊢
        clear hlook c53 q3 hw4 HL3 HRB HX3 HB3 HK3 HKB
        with_reducible refine (CN.out w4 B A d c HR4.out HL4.out).mono ?_
        rintro en w5 ⟨rfl, hb5⟩
        have HR5 := Lib.hid (HR4.out.below hb5)
        have HL5 := Lib.hid (HL4.out.below hb5)
        have HX5 := Lib.hid (HX4.out.below hb5)
        have HK5 := Lib.hid (HK4.out.below hb5)
        have HB5 := Lib.hid (HB4.out.trans (hb5.mono (show k.base ≤ w4.heap.size by have := lt_of_blk HX4.out.blk; have := HX4.out.hp; omega)))
        clear hb5
        go_wp2_with fail
        refine (CF.out w5 L.length ⟨_, HX5.out, HN.out⟩ HFB.out).mono ?_
        by_cases hfit : L.length + (e.go p).burn.inp.length ≤ k.most
        · rw [decide_eq_true hfit]
          have HE2 := Lib.hid ((come_yes (n := nm) hfit).trans HE.out)
          have hLl : L.length ≤ 1000 := by omega
          rintro en w6 ⟨rfl, hb6⟩
          have HX6 := Lib.hid (HX5.out.below hb6)
          have HK6 := Lib.hid (HK5.out.below hb6)
          have HR6 := Lib.hid (HR5.out.below hb6)
          have HL6 := Lib.hid (HL5.out.below hb6)
          have HB6 := Lib.hid (HB5.out.trans (hb6.mono (show k.base ≤ w5.heap.size by have := lt_of_blk HX5.out.blk; have := HX5.out.hp; omega)))
          clear hb6 hfit
          go_wp2_with fail
          refine (CL.out w6 B A d c HR6.out HL6.out (by omega)).mono ?_
          rintro en w7 ⟨B7, d7, rfl, ho7, hb7⟩
          have HX7 := Lib.hid (HX6.out.below hb7)
          have HK7 := Lib.hid (HK6.out.below hb7)
          have HB7 := Lib.hid (HB6.out.trans (hb7.mono (show k.base ≤ w6.heap.size by have := lt_of_blk HX6.out.blk; have := HX6.out.hp; omega)))
          have HR7 := Lib.hid ho7.rd
          have HQ7 := Lib.hid (own_ne ho7 (lt_of_blk HX6.out.blk))
          clear ho7 hb7
          go_wp2_with fail
          refine (CG.out w7 B7 d7 L _ HX7.out HN.out HR7.out HQ7.out (by omega)).mono ?_
          rintro en w8 ⟨rfl, hb8, hx8, hk8⟩
          have HB8 := Lib.hid (HB7.out.trans hb8)
          have HX8 := Lib.hid hx8
          have HK8 := Lib.hid (HK7.out.step hk8)
          clear hb8 hx8 hk8
          go_wp2
          go_ret
          exact ⟨⟨_, none, rfl, err_none, HB8.out, HX8.out, HE2.out, fun h => by cases h⟩, HK8.out⟩
        · rw [decide_eq_false hfit]
          have HE2 := Lib.hid ((come_no' (n := nm) hfit).trans HE.out)
          rintro en w6 ⟨rfl, hb6⟩
          have HX6 := Lib.hid (HX5.out.below hb6)
          have HK6 := Lib.hid (HK5.out.below hb6)
          have HB6 := Lib.hid (HB5.out.trans (hb6.mono (show k.base ≤ w5.heap.size by have := lt_of_blk HX5.out.blk; have := HX5.out.hp; omega)))
          clear hb6 hfit
          go_wp2
          go_ret
          exact ⟨⟨_, some 3, rfl, err_some (.inr (.inl rfl)), HB6.out, ⟨_, HX6.out, HN.out⟩, HE2.out, fun h => absurd h (by decide)⟩, HK6.out.but⟩
end Go.Proofs.YtmnbepapgghdaaaGreat
