/-
  The document's expansion: what is to come, macros: stored; front, come.
  The document's expansion: a command's groups, the first one's word.
  The document's expansion: a definition.
  The walk of LexBlanks: for every input it returns true; old memory stays.
-/
import Derived.Test.YtmnbepapgghdaaaGreatK31
import Derived.Deep.RegionHeld3
import Derived.Test.YtmnbepapgghdaaaGreatK04
namespace Go.Proofs.YtmnbepapgghdaaaGreat
open Go.RowKit

theorem in_stepq {w w2 : World} {base p : Nat} {FA IA MA LA RA NA A : Option Addr} {fn fc most ic mc lc rc nc c : Nat} {e : Ex} {l : List Tok} (hR : WkR w base p IA MA LA RA NA lc rc nc e) (hk : w.heap[p]? = some (.cells (wkC FA fn fc most IA MA LA RA NA ic mc lc rc nc e) 77)) (hp : base ≤ p)
    (hb : Below w.heap.size w w2) (hl : Rd w2 A l) (hq : InQ (Gd p (obA LA) (obA RA) (obA NA)) A l.length) (hc : l.length ≤ c ∧ c ≤ 9223372036854775807) :
    w2.cell? ⟨p, 1, none⟩ = some (.slice IA e.inp.length ic) ∧ w2.frozen? ⟨p, 1, none⟩ = false ∧ Hid (Wq (w2.setCell ⟨p, 1, none⟩ (.slice A l.length c)) base p FA fn fc most { e with inp := l }) ∧ Hid (Below base w (w2.setCell ⟨p, 1, none⟩ (.slice A l.length c))) ∧ Hid (But1 p w (w2.setCell ⟨p, 1, none⟩ (.slice A l.length c))) := by
  have hk2 := blk_below hb hk
  have hpl := lt_of_blk hk
  have hs := (hR.below hb).set 1 (.slice A l.length c)
  exact ⟨cell_of hk2 1, frozen_of hk2 1, Lib.hid ⟨A, MA, LA, RA, NA, c, mc, lc, rc, nc, ⟨hp, hc⟩, ⟨hs.out, hs.reads, hs.notes, hs.pl, hs.pr, hs.pn, hl.but (but1_set p 1 _ w2) (fun h0 a ha => (hq h0 a ha).1), hq, hs.ms, hs.msP⟩, blk_set hk2 1 _⟩,
    Lib.hid ((hb.mono (by omega)).setCell hp (p := ⟨p, 1, none⟩) _), Lib.hid ((but1_of hb).trans (but1_set p 1 _ w2) hb.size)⟩
theorem ms_stepq {w w2 : World} {base p : Nat} {FA IA MA LA RA NA A : Option Addr} {fn fc most ic mc lc rc nc c : Nat} {e : Ex} {ms : List Ml} (hic : e.inp.length ≤ ic ∧ ic ≤ 9223372036854775807) (hR : WkR w base p IA MA LA RA NA lc rc nc e) (hk : w.heap[p]? = some (.cells (wkC FA fn fc most IA MA LA RA NA ic mc lc rc nc e) 77)) (hp : base ≤ p)
    (hb : Below w.heap.size w w2) (hl : Pq.RdM (Gd p (obA LA) (obA RA) (obA NA)) w2 A ms) (hq : InQ (Gd p (obA LA) (obA RA) (obA NA)) A ms.length) :
    w2.cell? ⟨p, 2, none⟩ = some (.slice MA e.ms.length mc) ∧ w2.frozen? ⟨p, 2, none⟩ = false ∧ Hid (Wq (w2.setCell ⟨p, 2, none⟩ (.slice A ms.length c)) base p FA fn fc most { e with ms := ms }) ∧ Hid (Below base w (w2.setCell ⟨p, 2, none⟩ (.slice A ms.length c))) ∧ Hid (But1 p w (w2.setCell ⟨p, 2, none⟩ (.slice A ms.length c))) := by
  have hk2 := blk_below hb hk
  have hpl := lt_of_blk hk
  have hs := (hR.below hb).set 2 (.slice A ms.length c)
  have hset : ∀ b, b ≠ p → (w2.setCell ⟨p, 2, none⟩ (.slice A ms.length c)).heap[b]? = w2.heap[b]? := fun b hb => Below.heap_setCell w2 ⟨p, 2, none⟩ _ b hb
  exact ⟨cell_of hk2 2, frozen_of hk2 2, Lib.hid ⟨IA, A, LA, RA, NA, ic, c, lc, rc, nc, ⟨hp, hic⟩, ⟨hs.out, hs.reads, hs.notes, hs.pl, hs.pr, hs.pn, hs.inp, hs.inpP, rdM_move hl (fun h0 a ha => hset _ (hq h0 a ha).1) (fun B l r q => ⟨r.heap fun h0 a ha => hset _ (q h0 a ha).1, q⟩), hq⟩, blk_set hk2 2 _⟩,
    Lib.hid ((hb.mono (by omega)).setCell hp (p := ⟨p, 2, none⟩) _), Lib.hid ((but1_of hb).trans (but1_set p 2 _ w2) hb.size)⟩
/-- A row of one's own lies in a new block. -/
theorem own_newQ {P : Nat → Prop} {t : TypeId} {w : World} {base : Nat} {B : Option Addr} {d : Nat} {l : List Tok} (h : Own t w base B d l) (hP : ∀ k, base ≤ k → P k) : InQ P B l.length := fun h0 a ha => by
  obtain ⟨k, cap, hv, hb, _⟩ := World.ownsRow.form h h0
  simp only [Value.slice.injEq] at hv
  obtain ⟨rfl, _, _⟩ := hv
  cases ha
  exact hP _ hb
set_option maxRecDepth 100000 in
set_option maxHeartbeats 2000000 in
theorem rfront_any (base p : Nat) (FA : Option Addr) (fn fc most : Nat) (e : Ex) (X Y : Option Addr) (xc yc : Nat) (l r : List Tok) (w : World) (h : Wq w base p FA fn fc most e) (hx : Rd w X l) (hy : Rd w Y r) (hlen : l.length + r.length ≤ 200000) :
    Calls Tryz.prog 59 #[.pointer (some ⟨p, 0, none⟩), .slice X l.length xc, .slice Y r.length yc] w fun en w' => en = .returned (.tuple #[]) ∧ Below base w w' ∧ Wq w' base p FA fn fc most { e with inp := l ++ r } := by
  obtain ⟨IA, MA, LA, RA, NA, ic, mc, lc, rc, nc, ⟨hp, hic⟩, hr, hk⟩ := h
  have b0 := one_below w (.cells #[] 82)
  have HO0 := Lib.hid (show Own 82 (w.alloc (.cells #[] 82)) w.heap.size (some ⟨w.heap.size, 0, none⟩) 0 [] from World.ownsRow_lit w #[] 0 (Nat.le_refl _) (by unfold maxLen; omega) (by simp))
  have HX0 := Lib.hid (hx.below b0)
  have HB0 := Lib.hid b0
  have HY := Lib.hid hy
  have HR := Lib.hid hr
  have HK := Lib.hid hk
  have HGD := Lib.hid (fun k (q : w.heap.size ≤ k) => hr.gd (lt_of_blk hk) q)
  obtain ⟨lr, hlr⟩ : ∃ lr, l ++ r = lr := ⟨_, rfl⟩
  have HLR := Lib.hid hlr
  rw [hlr]
  clear b0 hx hy hr hk hic hlr
  go_enter Tryz.func59, Tryz.ntmps59
  go_wp2_with (at_builtin; first
    | (refine wpList_append_rdn40 _ rfl _ _ rfl w.heap.size _ l rfl HO1.out Y r.length yc r rfl rfl HY1.out (by omega) HZ1.out lr HLR.out ?_
       intro A2 c2 w2 ho2 hb2
       have HB2 := Lib.hid (HB1.out.trans hb2)
       obtain ⟨d1, f1, HW, HBW, _⟩ := in_stepq (c := c2) HR.out HK.out hp HB2.out ho2.rd (own_newQ ho2 HGD.out) ⟨ho2.cap.1, ho2.cap.2.1⟩
       clear ho2 hb2)
    | (refine wpList_append_rdn40 _ rfl _ _ rfl w.heap.size _ [] rfl HO0.out X l.length xc l rfl rfl HX0.out (by simp; omega) (by simp) l rfl ?_
       intro A1 c1 w1 ho1 hb1
       have HO1 := Lib.hid ho1
       have HB1 := Lib.hid (HB0.out.trans hb1)
       have HY1 := Lib.hid (HY.out.below HB1.out)
       have HZ1 := Lib.hid HB1.out.size
       clear ho1 hb1))
  go_end0
  exact ⟨rfl, HBW.out, HW.out⟩
theorem wq_most {w : World} {base p : Nat} {FA : Option Addr} {fn fc most : Nat} {e : Ex} (h : Wq w base p FA fn fc most e) : w.cell? ⟨p, 4, none⟩ = some (.int .i64 most) := by
  obtain ⟨IA, MA, LA, RA, NA, ic, mc, lc, rc, nc, hp, hr, hk⟩ := h
  exact cell_of hk 4
set_option maxRecDepth 100000 in
set_option maxHeartbeats 2000000 in
theorem rcome_any (base p : Nat) (FA : Option Addr) (fn fc most : Nat) (e : Ex) (s : By) (X Y : Option Addr) (xc yc : Nat) (l : List Tok) (w : World) (h : Wq w base p FA fn fc most e) (hx : Rd w X l) (hy : Rd w Y e.inp) (hm : most ≤ 100000) (hl1 : l.length ≤ 200000) (hl2 : e.inp.length ≤ 200000) (hn : e.notes.length ≤ 100000) (hbase : base ≤ w.heap.size) :
    Calls Tryz.prog 89 #[.pointer (some ⟨p, 0, none⟩), .string ⟨s.toArray⟩, .slice X l.length xc, .slice Y e.inp.length yc] w fun en w' => en = .returned (.tuple #[]) ∧ Below base w w' ∧ Wq w' base p FA fn fc most (e.come most s l) := by
  have c4 := wq_most h
  by_cases hb : most < l.length + e.inp.length
  · have C := Lib.hid (rnoteq_any base p FA fn fc most e 3 s w h hn hbase)
    have hE := Lib.hid (show e.come most s l = e.note 3 s by unfold Ex.come; rw [if_pos hb])
    have i1 : (most : Int) < (l.length : Int) + (e.inp.length : Int) := by omega
    clear h hx hy
    go_enter Tryz.func89, Tryz.ntmps89
    go_wp2_with fail
    refine C.out.mono ?_
    rintro en w' ⟨rfl, hb, hw⟩
    have HB := Lib.hid hb
    have HW := Lib.hid hw
    clear hb hw
    go_wp2
    (try simp only [Exit.inBlock, Exit.then])
    refine bodyPost_ret (results_none rfl _ _ _) rfl ?_
    exact ⟨rfl, HB.out, by rw [hE.out]; exact HW.out⟩
  · have C := Lib.hid (rfront_any base p FA fn fc most e X Y xc yc l e.inp w h hx hy (by omega))
    have hE := Lib.hid (show e.come most s l = { e with inp := l ++ e.inp } by unfold Ex.come; rw [if_neg hb])
    have i1 : (l.length : Int) + (e.inp.length : Int) ≤ (most : Int) := by omega
    clear h hx hy
    go_enter Tryz.func89, Tryz.ntmps89
    go_wp2_with fail
    refine C.out.mono ?_
    rintro en w' ⟨rfl, hb, hw⟩
    have HB := Lib.hid hb
    have HW := Lib.hid hw
    clear hb hw
    go_wp2
    go_end0
    exact ⟨rfl, HB.out, by rw [hE.out]; exact HW.out⟩
end Go.Proofs.YtmnbepapgghdaaaGreat

namespace Go.Proofs.YtmnbepapgghdaaaGreat
open Go.RowKit

theorem ownL_atq {P : Nat → Prop} {t : TypeId} {w : World} {base : Nat} {A : Option Addr} {c : Nat} {ll : List (List Tok)} (h : Pq.OwnL P t w base A c ll) {i : Nat} {l : List Tok} (hi : ll[i]? = some l) :
    ∃ (b : Nat) (B : Option Addr) (d : Nat), A = some ⟨b, 0, none⟩ ∧ base ≤ b ∧ b < w.heap.size ∧ w.cell? ⟨b, i, none⟩ = some (.slice B l.length d) ∧ Rd w B l ∧ (0 < l.length → ∀ a, B = some a → P a.block) := by
  have hlt : i < ll.length := (List.getElem?_eq_some_iff.1 hi).1
  obtain ⟨cs, hown, hc⟩ := h
  obtain ⟨g, cap, hv, hb, hg⟩ := World.ownsRow.form hown (by omega)
  simp only [Value.slice.injEq] at hv
  obtain ⟨rfl, _, _⟩ := hv
  obtain ⟨B, d, h1, h2, h3⟩ := hc i l hi
  have c1 := World.ownsRow.cellAt hown i (by omega)
  have c2 := c1.trans h1
  exact ⟨g, B, d, rfl, hb, World.block_lt_of_cell? w _ c2, c2, h2, fun h0 a ha => (h3 h0 a ha).2⟩
theorem wordE_some {l : List Tok} {s : By} (h : wordO l = some s) : wordE l = (s, true) := by
  unfold wordO at h
  split at h
  · rename_i t
    split at h
    · rename_i h1
      cases h
      unfold wordE
      simp [h1]
    · cases h
  · cases h
theorem wordE_none {l : List Tok} (h : wordO l = none) : (wordE l).2 = false := by
  unfold wordO at h
  split at h
  · rename_i t
    split at h
    · cases h
    · rename_i h1
      unfold wordE
      simp [h1]
  · rename_i h1
    unfold wordE
    split
    · rename_i t
      exact absurd rfl (h1 t)
    · rfl
/-- A command's groups, and what the first one is. -/
def WordPost (P : Nat → Prop) (w : World) (r : Option (List (List Tok) × By × Nat)) (en : Ending) (w' : World) : Prop := match r with
  | none => ∃ a b c, en = .returned (.tuple #[a, b, c, .bool false]) ∧ Below w.heap.size w w'
  | some (x, s, k) => ∃ A c, en = .returned (.tuple #[.slice A x.length c, .string ⟨s.toArray⟩, .int .i64 k, .bool true]) ∧ Pq.OwnL P 35 w' w.heap.size A c x ∧ Below w.heap.size w w'
set_option maxRecDepth 100000 in
set_option maxHeartbeats 2000000 in
theorem rwordq_any {P : Nat → Prop} (p : Nat) (A : Option Addr) (c : Nat) (l : List Tok) (n : Nat) (w : World) (h1 : w.cell? ⟨p, 1, none⟩ = some (.slice A l.length c)) (hr : Rd w A l) (hl : l.length ≤ 100000) (hcap : l.length ≤ c) (hc63 : c ≤ 9223372036854775807) (hn : 1 ≤ n ∧ n ≤ 9) (hP : Hid (∀ k, w.heap.size ≤ k → P k)) :
    Calls Tryz.prog 57 #[.pointer (some ⟨p, 0, none⟩), .int .i64 n] w (WordPost P w (argsW l n)) := by
  have CA := Lib.hid (Pq.rargs_any (P := P) A c l 0 n w hr hl hcap hc63 hP)
  have e0 : argsE l 0 n = argsP (argsG l n 0) := by
    unfold argsE
    rw [if_neg (by omega)]
    rfl
  rw [e0] at CA
  clear hr hP e0
  unfold argsW
  cases hg : argsG l n 0 with
  | none =>
    rw [hg] at CA
    clear hg
    go_enter Tryz.func57, Tryz.ntmps57
    go_wp2_with fail
    refine CA.out.mono ?_
    rintro en w1 ⟨B, d, rfl, ho, hb⟩
    have HB := Lib.hid hb
    clear hb ho
    unfold argsP
    go_wp2_with fail
    (try simp only [Exit.inBlock, Exit.then])
    refine bodyPost_ret (results_tmp4 rfl _ _ _) rfl ?_
    exact ⟨_, _, _, rfl, HB.out⟩
  | some y =>
    obtain ⟨x, k⟩ := y
    rw [hg] at CA
    obtain ⟨q1, q2, q3⟩ := args_le hg (Nat.zero_le _)
    simp only at q1 q2 q3
    obtain ⟨l0, hl0⟩ : ∃ l0, x[0]? = some l0 := ⟨_, List.getElem?_eq_getElem (by omega)⟩
    have hd : x.headD [] = l0 := by
      cases x with
      | nil => cases hl0
      | cons a r => cases hl0; rfl
    have hl0l : l0.length ≤ l.length := q3 l0 (List.mem_of_getElem? hl0)
    simp only [hd]
    have HL0 := Lib.hid hl0
    have x0 : (0 : Int) < (x.length : Int) := by omega
    clear hg q3 hl0 hd q1
    cases hw : wordO l0 with
    | none =>
      have HW := Lib.hid (wordE_none hw)
      clear hw
      go_enter Tryz.func57, Tryz.ntmps57
      go_wp2_with fail
      refine CA.out.mono ?_
      rintro en w1 ⟨B, d, rfl, ho, hb⟩
      obtain ⟨b, B0, d0, rfl, hbb, _, hc0, hr0, _⟩ := ownL_atq ho HL0.out
      have HB := Lib.hid hb
      have HR0 := Lib.hid hr0
      clear hb ho hr0
      unfold argsP
      go_wp2_with fail
      refine (rword7_any B0 d0 l0 w1 HR0.out (by omega)).mono ?_
      rw [HW.out]
      rintro en w2 ⟨rfl, rfl⟩
      go_wp2_with fail
      (try simp only [Exit.inBlock, Exit.then])
      refine bodyPost_ret (results_tmp4 rfl _ _ _) rfl ?_
      exact ⟨_, _, _, rfl, HB.out⟩
    | some s =>
      have HW := Lib.hid (wordE_some hw)
      clear hw
      go_enter Tryz.func57, Tryz.ntmps57
      go_wp2_with fail
      refine CA.out.mono ?_
      rintro en w1 ⟨B, d, rfl, ho, hb⟩
      have HO := Lib.hid ho
      obtain ⟨b, B0, d0, rfl, hbb, _, hc0, hr0, _⟩ := ownL_atq ho HL0.out
      have HB := Lib.hid hb
      have HR0 := Lib.hid hr0
      clear hb ho hr0
      unfold argsP
      go_wp2_with fail
      refine (rword7_any B0 d0 l0 w1 HR0.out (by omega)).mono ?_
      rw [HW.out]
      rintro en w2 ⟨rfl, rfl⟩
      go_wp2_with fail
      (try simp only [Exit.inBlock, Exit.then])
      refine bodyPost_ret (results_tmp4 rfl _ _ _) rfl ?_
      exact ⟨_, _, rfl, HO.out, HB.out⟩
end Go.Proofs.YtmnbepapgghdaaaGreat

namespace Go.Proofs.YtmnbepapgghdaaaGreat
open Go.RowKit

theorem rtok_from {A : Option Addr} {n c l : Nat} (h1 : l ≤ n) (w : World) : (Instr.slice 35 (.slice A n c) (some (.int .i64 l)) none none).run Tryz.prog w = .ok (.slice (cutS 2 A c l) (n - l) (c - l)) w :=
  part_l 35 82 2 (by kernel_rfl) (by kernel_rfl) (sz_run Tryz.info82) A n c l h1 w
/-- What is small in an expansion. -/
structure Bd (e : Ex) : Prop where
  pt : PTe e
  good : Good e.ms
  len : e.inp.length ≤ 400
  bods : ∀ m ∈ e.ms, m.2.2.length ≤ 400
  reads : e.reads.length ≤ 32
  out : e.out.length ≤ 1000
  notes : e.notes.length ≤ 90000
  fuel : e.fuel ≤ 1000
  used : e.used ≤ 1000
/-- The same, its parts by name. -/
theorem in_stepr {w w2 : World} {base p : Nat} {FA IA MA LA RA NA A : Option Addr} {fn fc most ic mc lc rc nc c n : Nat} {e : Ex} {l : List Tok} (hR : WkR w base p IA MA LA RA NA lc rc nc e) (hk : w.heap[p]? = some (.cells (wkC FA fn fc most IA MA LA RA NA ic mc lc rc nc e) 77))
    (hb : Below w.heap.size w w2) (hn : n = l.length) (hl : Rd w2 A l) (hq : InQ (Gd p (obA LA) (obA RA) (obA NA)) A l.length) :
    WkR (w2.setCell ⟨p, 1, none⟩ (.slice A n c)) base p A MA LA RA NA lc rc nc { e with inp := l } ∧ (w2.setCell ⟨p, 1, none⟩ (.slice A n c)).heap[p]? = some (.cells (wkC FA fn fc most A MA LA RA NA c mc lc rc nc { e with inp := l }) 77) := by
  subst hn
  have hk2 := blk_below hb hk
  have hs := (hR.below hb).set 1 (.slice A l.length c)
  exact ⟨⟨hs.out, hs.reads, hs.notes, hs.pl, hs.pr, hs.pn, hl.but (but1_set p 1 _ w2) (fun h0 a ha => (hq h0 a ha).1), hq, hs.ms, hs.msP⟩, blk_set hk2 1 _⟩
theorem inq_cut {P : Nat → Prop} {A : Option Addr} {n m c k : Nat} (h : InQ P A n) (hm : 0 < m → 0 < n) : InQ P (cutS 2 A c k) m := fun h0 a ha => by
  unfold cutS at ha
  split at ha
  · exact h (hm h0) a ha
  · cases A with
    | none => cases ha
    | some b =>
      simp only [Option.map_some, Option.some.injEq] at ha
      subst ha
      have := h (hm h0) b rfl
      rw [show (b.add (k * 2)).block = b.block by unfold Addr.add; split <;> simp_all]
      exact this
/-- What is to come is cut: in memory of the call's own. -/
theorem cut_stepr {w w2 : World} {base p : Nat} {FA IA MA LA RA NA : Option Addr} {fn fc most ic mc lc rc nc k : Nat} {e : Ex} (hic : e.inp.length ≤ ic ∧ ic ≤ 9223372036854775807) (hR : WkR w base p IA MA LA RA NA lc rc nc e) (hk : w.heap[p]? = some (.cells (wkC FA fn fc most IA MA LA RA NA ic mc lc rc nc e) 77)) (hp : base ≤ p)
    (hb : Below w.heap.size w w2) (hkl : k ≤ e.inp.length) :
    w2.cell? ⟨p, 1, none⟩ = some (.slice IA e.inp.length ic) ∧ w2.frozen? ⟨p, 1, none⟩ = false ∧
    ∃ w3, w3 = w2.setCell ⟨p, 1, none⟩ (.slice (cutS 2 IA ic k) (e.inp.length - k) (ic - k)) ∧ Hid (WkR w3 base p (cutS 2 IA ic k) MA LA RA NA lc rc nc (e.go k)) ∧ Hid (w3.heap[p]? = some (.cells (wkC FA fn fc most (cutS 2 IA ic k) MA LA RA NA (ic - k) mc lc rc nc (e.go k)) 77)) ∧
      Hid (Below base w w3) ∧ Hid (But1 p w2 w3) ∧ Hid ((e.go k).inp.length ≤ ic - k ∧ ic - k ≤ 9223372036854775807) := by
  have hk2 := blk_below hb hk
  have hpl := lt_of_blk hk
  have hl : Rd w2 (cutS 2 IA ic k) (e.inp.drop k) := (hR.inp.below hb).drop hkl hic.1
  obtain ⟨q1, q2⟩ := in_stepr (FA := FA) (fn := fn) (fc := fc) (most := most) (c := ic - k) (n := e.inp.length - k) hR hk hb (by simp) hl (inq_cut hR.inpP (by simp; omega))
  exact ⟨cell_of hk2 1, frozen_of hk2 1, _, rfl, Lib.hid q1, Lib.hid q2, Lib.hid ((hb.mono (by omega)).setCell hp (p := ⟨p, 1, none⟩) _), Lib.hid (but1_set p 1 _ w2), Lib.hid ⟨by show (e.inp.drop k).length ≤ _; simp; omega, by omega⟩⟩
theorem But1.cell {p : Nat} {w w' : World} (h : But1 p w w') {b i : Nat} {v : Value} (hb : b ≠ p) (hc : w.cell? ⟨b, i, none⟩ = some v) : w'.cell? ⟨b, i, none⟩ = some v := by
  have e := h b (World.block_lt_of_cell? w _ hc) hb
  rw [← hc]
  simp only [World.cell?, e]
theorem rd110 {P : Nat → Prop} {w : World} {base : Nat} {A : Option Addr} {c : Nat} {ms : List Ml} (h : Pq.OwnM P 110 w base A c ms) (hP : ∀ k, base ≤ k → P k) : Pq.RdM P w A ms ∧ InQ P A ms.length := by
  refine ⟨h.rd.plain, fun h0 a ha => hP _ (h.ge a.block ?_)⟩
  rw [obA_own, ha]
  rfl
theorem digO_ofq {l : List Tok} {c : UInt8} (h : wordO l = some [c]) : digO l = if 48 ≤ c.toNat ∧ c.toNat ≤ 57 then some ((c.toNat : Int) - 48) else none := by
  unfold digO
  rw [h]
theorem digO_no {l : List Tok} (h : wordO l = none) : digO l = none := by
  unfold digO
  rw [h]
theorem digO_long {l : List Tok} {s : By} (h : wordO l = some s) (hs : s.length ≠ 1) : digO l = none := by
  unfold digO
  rw [h]
  match s, hs with
  | [], _ => rfl
  | [c], hs => exact absurd rfl hs
  | a :: b :: r, _ => rfl
set_option maxRecDepth 100000 in
set_option maxHeartbeats 4000000 in
theorem rdef_any (base p : Nat) (FA : Option Addr) (fn fc most : Nat) (e : Ex) (w : World) (h : Wq w base p FA fn fc most e) (hbd : Bd e) (hbase : base ≤ w.heap.size) :
    Calls Tryz.prog 56 #[.pointer (some ⟨p, 0, none⟩)] w fun en w' => en = .returned (.tuple #[]) ∧ Below base w w' ∧ Wq w' base p FA fn fc most (defE e) := by
  have HBD := Lib.hid hbd
  have HWQ := Lib.hid h
  obtain ⟨IA, MA, LA, RA, NA, ic, mc, lc, rc, nc, ⟨hp, hic⟩, hr, hk⟩ := h
  have hpl := lt_of_blk hk
  have CW := Lib.hid (rwordq_any (P := Gd p (obA LA) (obA RA) (obA NA)) p IA ic e.inp 3 w (cell_of hk 1) hr.inp (by have := hbd.len; omega) hic.1 hic.2 ⟨by omega, by omega⟩ (Lib.hid (fun k q => hr.gd hpl q)))
  have CN := Lib.hid (fun W (h : Wq W base p FA fn fc most e) (q : base ≤ W.heap.size) => rnoteq_any base p FA fn fc most e 10 sDef W h (by have := hbd.notes; omega) q)
  have HR := Lib.hid hr
  have HK := Lib.hid hk
  have HIC := Lib.hid hic
  have HGD := Lib.hid (fun k (q : w.heap.size ≤ k) => hr.gd hpl q)
  have HBS := Lib.hid hbase
  clear hr hk hic hbd
  obtain ⟨G, hG⟩ : ∃ G, defE e = G := ⟨_, rfl⟩
  rw [hG]
  have HG : Hid ((match argsW e.inp 3 with
    | none => e.note 10 sDef
    | some (x, s, p) => match digO (x.getD 1 []) with
      | none => e.note 10 sDef
      | some d => if putE e.ms (s, d, x.getD 2 []) = 0 then { e.go p with ms := putL e.ms (s, d, x.getD 2 []) } else (e.go p).note (putE e.ms (s, d, x.getD 2 [])) s) = G) := Lib.hid hG
  clear hG
  cases hw : argsW e.inp 3 with
  | none =>
    rw [hw] at CW HG
    simp only at HG
    rw [HG.out] at CN
    clear hw HG
    go_enter Tryz.func56, Tryz.ntmps56
    go_wp2_with fail
    refine CW.out.mono ?_
    rintro en w1 ⟨a, b, c, rfl, hb⟩
    have HB := Lib.hid hb
    clear hb
    go_wp2_with fail
    refine (CN.out w1 (HWQ.out.below HB.out) (by have := HB.out.size; omega)).mono ?_
    rintro en w2 ⟨rfl, hb, hq⟩
    have HB2 := Lib.hid ((HB.out.mono HBS.out).trans hb)
    have HQ := Lib.hid hq
    clear hb hq
    go_wp2_with fail
    (try simp only [Exit.inBlock, Exit.then])
    refine bodyPost_ret (results_none rfl _ _ _) rfl ?_
    exact ⟨rfl, HB2.out, HQ.out⟩
  | some y =>
    obtain ⟨x, s, k⟩ := y
    rw [hw] at CW HG
    have hx3 : x.length = 3 := (args_le (argsW_some hw).1 (Nat.zero_le _)).1
    obtain ⟨_, hkl, _⟩ := args_part (argsW_some hw).1 (Nat.zero_le _)
    have hs := argsW_name HBD.out.pt.1 hw
    have hxl := (args_le (argsW_some hw).1 (Nat.zero_le _)).2.2
    obtain ⟨y1, hy1⟩ : ∃ y, x[1]? = some y := ⟨_, List.getElem?_eq_getElem (by omega)⟩
    obtain ⟨y2, hy2⟩ : ∃ y, x[2]? = some y := ⟨_, List.getElem?_eq_getElem (by omega)⟩
    have hl1 := hxl y1 (List.mem_of_getElem? hy1)
    have hl2 := hxl y2 (List.mem_of_getElem? hy2)
    have hil := HBD.out.len
    simp only [getD_at hy1, getD_at hy2] at HG
    have HY1 := Lib.hid hy1
    have HY2 := Lib.hid hy2
    have i1 : (1 : Int) < (x.length : Int) := by omega
    have i2 : (2 : Int) < (x.length : Int) := by omega
    clear hw hxl hy1 hy2
    by_cases hbad : digO y1 = none
    · -- it is no number
      rw [hbad] at HG
      simp only at HG
      rw [HG.out] at CN
      have HBAD := Lib.hid hbad
      clear HG hbad
      go_enter Tryz.func56, Tryz.ntmps56
      go_wp2_with fail
      refine CW.out.mono ?_
      rintro en w1 ⟨B, d, rfl, ho, hb⟩
      obtain ⟨g, B1, d1, rfl, hgb, _, hc1, hr1, _⟩ := ownL_atq ho HY1.out
      have HB := Lib.hid hb
      have HQ1 := Lib.hid (HWQ.out.below hb)
      have HZ1 := Lib.hid (show base ≤ w1.heap.size by have := hb.size; omega)
      have C85 := Lib.hid (rword7_any B1 d1 y1 w1 hr1 (by omega))
      clear hb ho hr1
      cases ho1 : wordO y1 with
      | none =>
        have HW := Lib.hid (wordE_none ho1)
        clear ho1
        go_wp2_with fail
        refine C85.out.mono ?_
        rw [HW.out]
        rintro en w2 ⟨rfl, rfl⟩
        go_wp2_with fail
        refine (CN.out w1 HQ1.out HZ1.out).mono ?_
        rintro en w2 ⟨rfl, hb, hq⟩
        have HB2 := Lib.hid ((HB.out.mono HBS.out).trans hb)
        have HQ := Lib.hid hq
        clear hb hq
        go_wp2_with fail
        (try simp only [Exit.inBlock, Exit.then])
        refine bodyPost_ret (results_none rfl _ _ _) rfl ?_
        exact ⟨rfl, HB2.out, HQ.out⟩
      | some z =>
        have HW := Lib.hid (wordE_some ho1)
        by_cases hz1 : z.length = 1
        · match z, hz1 with
          | [cc], _ =>
            have hno : ¬ (48 ≤ cc.toNat ∧ cc.toNat ≤ 57) := fun q => by
              have := digO_ofq ho1
              rw [if_pos q, HBAD.out] at this
              cases this
            clear ho1
            obtain ⟨v, hidx, hways⟩ : ∃ v : Int, (((⟨#[cc]⟩ : ByteArray)[0]'(show 0 < (⟨#[cc]⟩ : ByteArray).size from Nat.zero_lt_one)).toNat : Int) = v ∧ (v < 48 ∨ 57 < v) := ⟨(cc.toNat : Int), rfl, by omega⟩
            rcases hways with hv | hv
            · go_wp2_with fail
              refine C85.out.mono ?_
              rw [HW.out]
              rintro en w2 ⟨rfl, rfl⟩
              go_wp2_with fail
              refine (CN.out w1 HQ1.out HZ1.out).mono ?_
              rintro en w2 ⟨rfl, hb, hq⟩
              have HB2 := Lib.hid ((HB.out.mono HBS.out).trans hb)
              have HQ := Lib.hid hq
              clear hb hq
              go_wp2_with fail
              (try simp only [Exit.inBlock, Exit.then])
              refine bodyPost_ret (results_none rfl _ _ _) rfl ?_
              exact ⟨rfl, HB2.out, HQ.out⟩
            · have hv2 : (48 : Int) ≤ v := by omega
              go_wp2_with fail
              refine C85.out.mono ?_
              rw [HW.out]
              rintro en w2 ⟨rfl, rfl⟩
              go_wp2_with fail
              refine (CN.out w1 HQ1.out HZ1.out).mono ?_
              rintro en w2 ⟨rfl, hb, hq⟩
              have HB2 := Lib.hid ((HB.out.mono HBS.out).trans hb)
              have HQ := Lib.hid hq
              clear hb hq
              go_wp2_with fail
              (try simp only [Exit.inBlock, Exit.then])
              refine bodyPost_ret (results_none rfl _ _ _) rfl ?_
              exact ⟨rfl, HB2.out, HQ.out⟩
        · have hz2 : ((z.length : Int) != 1) = true := by simp; omega
          clear ho1
          go_wp2_with fail
          refine C85.out.mono ?_
          rw [HW.out]
          rintro en w2 ⟨rfl, rfl⟩
          go_wp2_with fail
          refine (CN.out w1 HQ1.out HZ1.out).mono ?_
          rintro en w2 ⟨rfl, hb, hq⟩
          have HB2 := Lib.hid ((HB.out.mono HBS.out).trans hb)
          have HQ := Lib.hid hq
          clear hb hq
          go_wp2_with fail
          (try simp only [Exit.inBlock, Exit.then])
          refine bodyPost_ret (results_none rfl _ _ _) rfl ?_
          exact ⟨rfl, HB2.out, HQ.out⟩
    · -- it is one
      obtain ⟨cc, ho1, hv1, hv2⟩ : ∃ cc : UInt8, wordO y1 = some [cc] ∧ (48 : Int) ≤ (cc.toNat : Int) ∧ (cc.toNat : Int) ≤ 57 := by
        cases h1 : wordO y1 with
        | none => exact absurd (digO_no h1) hbad
        | some z =>
          by_cases hz : z.length = 1
          · match z, hz with
            | [cc], _ =>
              by_cases hq : 48 ≤ cc.toNat ∧ cc.toNat ≤ 57
              · exact ⟨cc, rfl, by omega, by omega⟩
              · exact absurd (by rw [digO_ofq h1, if_neg hq]) hbad
          · exact absurd (digO_long h1 hz) hbad
      rw [digO_ofq ho1, if_pos ⟨by omega, by omega⟩] at HG
      simp only at HG
      have HW := Lib.hid (wordE_some ho1)
      obtain ⟨v, hidx, hvc⟩ : ∃ v : Int, (((⟨#[cc]⟩ : ByteArray)[0]'(show 0 < (⟨#[cc]⟩ : ByteArray).size from Nat.zero_lt_one)).toNat : Int) = v ∧ (cc.toNat : Int) = v := ⟨(cc.toNat : Int), rfl, rfl⟩
      rw [hvc] at hv1 hv2 HG
      clear hbad ho1 CN hvc
      go_enter Tryz.func56, Tryz.ntmps56
      go_wp2_with fail
      refine CW.out.mono ?_
      rintro en w1 ⟨B, d, rfl, ho, hb⟩
      obtain ⟨g, B1, d1, rfl, hgb, _, hc1, hr1, _⟩ := ownL_atq ho HY1.out
      obtain ⟨g2, B2, d2, hg2, _, _, hc2, hr2, hP2⟩ := ownL_atq ho HY2.out
      have hgg : g = g2 := by cases hg2; rfl
      subst hgg
      have C85 := Lib.hid (rword7_any B1 d1 y1 w1 hr1 (by omega))
      have hgp : g ≠ p := by omega
      obtain ⟨f1, f2, w3, hw3, HR3, HK3, HB3, HBU, HIC3⟩ := cut_stepr HIC.out HR.out HK.out hp hb hkl
      have HCUT := fun w => rtok_from (A := IA) (n := e.inp.length) (c := ic) (l := k) hkl w
      have HC2 := Lib.hid hc2
      have HR2 := Lib.hid hr2
      have HP2 := Lib.hid hP2
      have HZ1 := Lib.hid hb.size
      have HF := Lib.hid (And.intro f1 f2)
      clear hb ho hr1 hc2 hr2 hP2 hg2 f1 f2
      go_wp2_with fail
      refine C85.out.mono ?_
      rw [HW.out]
      rintro en w2 ⟨rfl, rfl⟩
      have f1 := HF.out.1
      have f2 := HF.out.2
      go_wp2_with fail
      rw [← hw3]
      have c2 := HBU.out.cell hgp HC2.out
      have R2 := HR2.out.but HBU.out (fun h0 a ha => (HP2.out h0 a ha).1)
      have HZ3 := Lib.hid (show base ≤ w3.heap.size by have := HB3.out.size; omega)
      have hgd3 : ∀ q, w3.heap.size ≤ q → Gd p (obA LA) (obA RA) (obA NA) q := fun q hq => HR3.out.gd (lt_of_blk HK3.out) hq
      have CP := Lib.hid (Pq.rput7_any (P := Gd p (obA LA) (obA RA) (obA NA)) MA mc e.ms (s, v - 48, y2) B2 d2 w3.drew (HR3.out.ms.below (below_drew w3)) (R2.below (below_drew w3)) (Lib.hid HP2.out) (by have := HBD.out.good.2.1; omega) (by show s.length ≤ _; omega))
      have k2 : w3.drew.cell? ⟨p, 2, none⟩ = some (.slice MA e.ms.length mc) := cell_of HK3.out 2
      have c2 : w3.drew.cell? ⟨g, 2, none⟩ = some (.slice B2 y2.length d2) := c2
      have HGD3 := Lib.hid hgd3
      have HWR := Lib.hid (show IntKind.i64.wrap (IntKind.i64.wrap v - 48) = v - 48 by rw [IntWalk.i64_in v (by omega), IntWalk.i64_in _ (by omega)])
      clear R2 HCUT hgd3 hc1 f1 f2 HR2 HC2 HP2 hw3 HF
      go_region_held3 (fun v => v.cell? ⟨p, 2, none⟩ = some (.slice MA e.ms.length mc) ∧ v.cell? ⟨g, 2, none⟩ = some (.slice B2 y2.length d2))
        (first
          | exact ⟨cell_below HB4.out k2, cell_below HB4.out c2⟩
          | exact ⟨k2, c2⟩
          | go_keep)
        (first
          | (go_at_call 86; rw [HWR.out]; refine CP.out.mono ?_; rintro e' w4 ⟨A4, c4, rfl, ho4, hb4⟩; have HB4 := Lib.hid hb4; have HO4 := Lib.hid ho4; clear hb4 ho4))
      have HB4 := Lib.hid (show Below w3.heap.size w3 w4 from bch (below_drew w3) HB4.out)
      obtain ⟨pe, hpe⟩ : ∃ pe, putE e.ms (s, v - 48, y2) = pe := ⟨_, rfl⟩
      have HPE := Lib.hid hpe
      rw [hpe] at HG ⊢
      clear CP k2 c2 hpe
      by_cases h0 : pe = 0
      · subst h0
        rw [if_pos rfl] at HG
        rw [putR_yes HPE.out] at HO4 ⊢
        obtain ⟨r1, r2⟩ := rd110 HO4.out HGD3.out
        obtain ⟨f1, f2, HQ, HBW, _⟩ := ms_stepq (c := c4) HIC3.out HR3.out HK3.out hp HB4.out r1 r2
        obtain ⟨ms, hms⟩ : ∃ ms, putL e.ms (s, v - 48, y2) = ms := ⟨_, rfl⟩
        rw [hms] at HG HQ HBW ⊢
        have HBF := Lib.hid (HB3.out.trans HBW.out)
        have HGG := Lib.hid HG.out
        have e2 : (e.go k).ms = e.ms := rfl
        clear r1 r2 HO4 hms HG
        go_wp2_with fail
        go_end0
        exact ⟨rfl, HBF.out, by rw [← HGG.out]; exact HQ.out⟩
      · rw [if_neg h0] at HG
        have hpe : (pe != 0) = true := by simpa using h0
        have HQ3 := Lib.hid (show Wq w4 base p FA fn fc most (e.go k) from Wq.below ⟨_, MA, LA, RA, NA, _, mc, lc, rc, nc, ⟨hp, HIC3.out⟩, HR3.out, HK3.out⟩ HB4.out)
        have CN := Lib.hid (rnoteq_any base p FA fn fc most (e.go k) pe s w4 HQ3.out (by have := HBD.out.notes; show e.notes.length ≤ _; omega) (by have := HB4.out.size; have := HZ3.out; omega))
        have HBF := Lib.hid (HB3.out.trans (HB4.out.mono HZ3.out))
        have HGG := Lib.hid HG.out
        rw [HGG.out] at CN
        clear HO4 HG h0
        go_wp2_with fail
        refine CN.out.mono ?_
        rintro en w5 ⟨rfl, hb, hq⟩
        have HB5 := Lib.hid (HBF.out.trans hb)
        have HQ := Lib.hid hq
        clear hb hq
        go_wp2_with fail
        (try simp only [Exit.inBlock, Exit.then])
        refine bodyPost_ret (results_none rfl _ _ _) rfl ?_
        exact ⟨rfl, HB5.out, HQ.out⟩
end Go.Proofs.YtmnbepapgghdaaaGreat

namespace Go.Proofs.YtmnbepapgghdaaaGreat
open Go.RowKit

theorem str_appQ {a b r : By} (h : a ++ b = r) : Value.string (({ data := a.toArray } : ByteArray) ++ { data := b.toArray }) = Value.string { data := r.toArray } := by
  subst h; congr 1
theorem one_byteQ (t : ByteArray) (k : Nat) (h : k < t.size) : t.extract k (k + 1) = ⟨([t[k]] : By).toArray⟩ := by
  apply str_of
  rw [ext_list, take_step t k h, List.drop_append, List.length_take, size_list]
  rw [List.drop_of_length_le (by rw [List.length_take]; omega), show k - min k t.size = 0 by omega]
  rfl
theorem tabs_app (k : Nat) (a b : By) : tabs k (a ++ b) = tabs k a ++ tabs k b := by simp [tabs]
theorem tabs_one9 (k : Nat) : tabs k [9] = List.replicate (k + 1) 32 := by simp [tabs, sp]
theorem tabs_one {c : UInt8} (k : Nat) (h : c ≠ 9) : tabs k [c] = [c] := by simp [tabs, sp, h]
end Go.Proofs.YtmnbepapgghdaaaGreat
