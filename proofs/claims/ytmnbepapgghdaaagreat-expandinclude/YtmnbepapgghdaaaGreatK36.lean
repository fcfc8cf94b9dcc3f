/-
  ExpandInclude: its walk.
  Arguments that came in, read as plain lists: tokens, bytes.
  Arguments that came in, read as plain lists: files; two bytes.
-/
import Derived.Test.YtmnbepapgghdaaaGreatK34
import Derived.Test.YtmnbepapgghdaaaGreatK35
import Derived.Deep.RegionHeld3
import Derived.Test.YtmnbepapgghdaaaGreatK03
import Derived.Deep.SlicePairs
import Derived.Lib.SmallJoins
import Derived.ProofKit
import Derived.OpenShut
import Derived.Test.YtmnbepapgghdaaaGreatK22
namespace Go.Proofs.YtmnbepapgghdaaaGreat
open Go.RowKit

theorem sub_str (s r : By) (i : Nat) (hc : i + 4 ≤ s.length) (hr : (s.drop i).take 4 = r) (w : World) : (Instr.slice 9 (.string ⟨s.toArray⟩) (some (.int .i64 i)) (some (.int .i64 ((i : Int) + 4))) none).run Tryz.prog w = .ok (.string ⟨r.toArray⟩) w := by
  have u9 := Tryz.underlying9
  subst hr
  have hx : (⟨s.toArray⟩ : ByteArray).extract i (i + 4) = ⟨((s.drop i).take 4).toArray⟩ := by
    apply ByteArray.ext
    simp [ByteArray.data_extract]
  go_simp
  rw [if_pos ⟨by omega, by omega⟩, if_pos (by omega), show ((i : Int) + 4).toNat = i + 4 from by omega, hx]
/-- Two files. -/
theorem two_fs (w : World) (n m s t : By) (hs : s.length ≤ 1000) (ht : t.length ≤ 1000) (hl : Op.bytesLess n m = true) : Fs (w.alloc (.cells #[.string ⟨n.toArray⟩, .string ⟨s.toArray⟩, .string ⟨m.toArray⟩, .string ⟨t.toArray⟩] 45)) (some ⟨w.heap.size, 0, none⟩) [(n, s), (m, t)] := by
  refine ⟨fun _ => ⟨w.heap.size, 0, rfl, fun i f hi => ?_⟩, by simp, ?_, fun f hf => ?_⟩
  · match i, hi with
    | 0, hi =>
      cases hi
      exact ⟨by rw [World.cell?_alloc_new]; rfl, by rw [World.cell?_alloc_new]; rfl⟩
    | 1, hi =>
      cases hi
      exact ⟨by rw [World.cell?_alloc_new]; rfl, by rw [World.cell?_alloc_new]; rfl⟩
    | i + 2, hi => simp at hi
  · refine List.Pairwise.cons (fun a ha => ?_) (List.pairwise_singleton _ _)
    simp at ha
    subst ha
    exact hl
  · simp at hf
    rcases hf with rfl | rfl
    · exact hs
    · exact ht
/-- Nowhere in the text. -/
theorem no_infix {r : By} (h : ∀ j, j + 4 ≤ r.length → (r.drop j).take 4 ≠ sInc4) : ¬ sInc4 <:+: r := fun ⟨a, b, e⟩ => by
  refine h a.length ?_ ?_
  · rw [← e]; simp [sInc4]
  · rw [← e]; simp [sInc4]
theorem enter15 (args : Array Value) (w : World) : (callFunc 15 args).run Tryz.prog w = .ok (.enter 15 args) w := enter_of Tryz.func15 (by kernel_rfl) (by kernel_rfl) args w
theorem enter19 (args : Array Value) (w : World) : (callFunc 19 args).run Tryz.prog w = .ok (.enter 19 args) w := enter_of Tryz.func19 (by kernel_rfl) (by kernel_rfl) args w
theorem enter22 (args : Array Value) (w : World) : (callFunc 22 args).run Tryz.prog w = .ok (.enter 22 args) w := enter_of Tryz.func22 (by kernel_rfl) (by kernel_rfl) args w
/-- An answer of known parts. -/
def AnsO (w : World) (r : Res8) (b : Nat) (u : Int) (en : Ending) (w' : World) : Prop :=
  ∃ (LA RA NA : Option Addr) (lc rc nc : Nat), en = .returned (.tuple #[.agg #[.slice LA r.1.length lc, .slice RA b rc, .slice NA r.2.2.1.length nc, .int .i64 u], .int .i64 0]) ∧ OutO w' w.heap.size LA RA NA lc rc nc r ∧ Below w.heap.size w w'
def two45 (w : World) (r : By) : World := w.alloc (.cells #[.string ⟨#[98]⟩, .string ⟨r.toArray⟩, .string ⟨#[109]⟩, .string ⟨#[92, 105, 110, 99, 108, 117, 100, 101, 123, 98, 125]⟩] 45)
theorem inc_A (n : Nat) (r : By) (w : World) (hr : r.length ≤ 150) (hn : n ≤ 40) (h : ¬ sInc4 <:+: r) (hF : Fs (two45 w r) (some ⟨w.heap.size, 0, none⟩) [([98], r), ([109], tI)]) :
    Calls Tryz.prog 11 #[.slice (some ⟨w.heap.size, 0, none⟩) 2 2, .string ⟨#[109]⟩, .int .i64 ((n + 1 : Nat) : Int), .int .i64 400] (w.alloc (.cells #[.string ⟨#[98]⟩, .string ⟨r.toArray⟩, .string ⟨#[109]⟩, .string ⟨#[92, 105, 110, 99, 108, 117, 100, 101, 123, 98, 125]⟩] 45))
      (AnsO (two45 w r) ((expE Fl.nmOk (flF [([98], r)]) n 400 [98]).out, [[109], [98]], (expE Fl.nmOk (flF [([98], r)]) n 400 [98]).notes, (expE Fl.nmOk (flF [([98], r)]) n 400 [98]).used + 1) 2 (((expE Fl.nmOk (flF [([98], r)]) n 400 [98]).used : Int) + 1)) := by
  have q := expand_go [([98], r), ([109], tI)] [109] (some ⟨w.heap.size, 0, none⟩) 2 (n + 1) 400 (two45 w r) (by omega) (by omega) hF
  rw [inc_is n r hr h] at q
  exact q
theorem inc_B (n : Nat) (r : By) (w : World) (hr : r.length ≤ 150) (hn : n ≤ 40) (h : ¬ sInc4 <:+: r) :
    Calls Tryz.prog 11 #[.slice (some ⟨w.heap.size, 0, none⟩) 1 1, .string ⟨#[98]⟩, .int .i64 (n : Int), .int .i64 400] (w.alloc (.cells #[.string ⟨#[98]⟩, .string ⟨r.toArray⟩] 45))
      (AnsO (w.alloc (.cells #[.string ⟨#[98]⟩, .string ⟨r.toArray⟩] 45)) ((expE Fl.nmOk (flF [([98], r)]) n 400 [98]).out, [[98]], (expE Fl.nmOk (flF [([98], r)]) n 400 [98]).notes, (expE Fl.nmOk (flF [([98], r)]) n 400 [98]).used) 1 ((expE Fl.nmOk (flF [([98], r)]) n 400 [98]).used : Int)) := by
  have q := expand_go [([98], r)] [98] (some ⟨w.heap.size, 0, none⟩) 1 n 400 _ (by omega) (by omega) (one_fs w [98] r (by omega))
  have e : outX (expE Fl.nmOk (flF [([98], r)]) n 400 [98]) = ((expE Fl.nmOk (flF [([98], r)]) n 400 [98]).out, [[98]], (expE Fl.nmOk (flF [([98], r)]) n 400 [98]).notes, (expE Fl.nmOk (flF [([98], r)]) n 400 [98]).used) := by unfold outX; rw [inc_reads n r h]
  rw [e] at q
  exact q
set_option maxRecDepth 100000 in
set_option maxHeartbeats 4000000 in
theorem expandInclude_walk (s : By) (x : Nat) (w : World) (hs : s.length ≤ 9223372036854775807) (hx : x ≤ 255) :
    Calls Tryz.prog 8 #[.string ⟨s.toArray⟩, .int .u8 x] w fun en w' => en = .returned (.bool true) ∧ Below w.heap.size w w' := by
  obtain ⟨c, r, hr, hrl, m1, m2⟩ := cut_facts s 150 150 rfl
  clear hr
  go_enter Tryz.func8, Tryz.ntmps8
  go_wp2_with fail
  clear m1 m2
  go_loopw [5] (fun v wr => ∃ i : Nat, v = .int .i64 i ∧ i ≤ r.length + 1 ∧ Hid (∀ j, j < i → j + 4 ≤ r.length → (r.drop j).take 4 ≠ sInc4) ∧ wr = w) (fun v _ => r.length + 1 - (intOf v).toNat)
  case atStart => exact ⟨0, rfl, by omega, Lib.hid (fun j hj => by omega), rfl⟩
  case round =>
    obtain ⟨i, rfl, hi, hall, rfl⟩ := hrel
    by_cases hlt : i + 4 ≤ r.length
    · obtain ⟨q, hq⟩ : ∃ q, (r.drop i).take 4 = q := ⟨_, rfl⟩
      have hsub := sub_str r q i hlt hq
      have HQ := Lib.hid hq
      clear hq
      have i1 : (i : Int) + 4 ≤ (r.length : Int) := by omega
      by_cases hq4 : q = sInc4
      · have c1 : (q == [92, 105, 110, 99]) = true := by rw [hq4]; rfl
        go_wp2_with fail
        refine (fixed_any wr).mono ?_
        rintro en w1 ⟨rfl, hb⟩
        have HB := Lib.hid hb
        clear hb
        go_wp2
        go_ret
        exact ⟨rfl, HB.out⟩
      · have c1 : (q == [92, 105, 110, 99]) = false := by simpa [sInc4] using hq4
        have HQ4 := Lib.hid hq4
        clear hq4
        go_wp2
        go_roundw
        case rel => exact ⟨i + 1, by go_num, by omega, Lib.hid (fun j hj hl => by
          rcases Nat.lt_or_ge j i with h | h
          · exact hall.out j h hl
          · have : j = i := by omega
            rw [this, HQ.out]; exact HQ4.out), trivial⟩
        case measure => simp [intOf]; omega
    · have HNO := Lib.hid (no_infix (r := r) (fun j hj => hall.out j (by omega) hj))
      have i1 : (r.length : Int) < (i : Int) + 4 := by omega
      clear hall hs
      obtain ⟨n, hn⟩ : ∃ n, x % 41 = n := ⟨_, rfl⟩
      have hn40 : n ≤ 40 := by omega
      have HINC := Lib.hid (inc_is n r hrl HNO.out)
      have HRD := Lib.hid (inc_reads n r HNO.out)
      have FA := Lib.hid (two_fs wr [98] [109] r tI (by omega) (by decide) (by decide))
      have EA := Lib.hid (inc_A n r wr hrl hn40 HNO.out FA.out)
      have EB := Lib.hid (fun W => inc_B n r W hrl hn40 HNO.out)
      have SMB := Lib.hid (sm_of (fs := [([98], r)]) (fuel := n) (most := 400) (main := [98]) (by omega) (by omega) (fun f hf => by simp at hf; subst hf; show r.length ≤ _; omega))
      have HU := Lib.hid (expE_used Fl.nmOk (flF [([98], r)]) n 400 [98])
      generalize expE Fl.nmOk (flF [([98], r)]) n 400 [98] = eb at EA EB SMB HU
      obtain ⟨O, R, N, u, hO⟩ : ∃ O R N u, (eb.out, eb.reads, eb.notes, eb.used) = ((O, R, N, u) : Res8) := ⟨_, _, _, _, rfl⟩
      simp only [Prod.mk.injEq] at hO
      obtain ⟨o1, o2, o3, o4⟩ := hO
      have SMB := Lib.hid (show Sm (O, [[98]], N, u) from ⟨by rw [← o1]; exact SMB.out.1, by show 1 ≤ 100; omega, by rw [← o3]; exact SMB.out.2.2⟩)
      rw [o1, o3, o4] at EA EB
      rw [o4] at HU
      clear o1 o2 o3 o4 HINC HRD
      go_wp2_with fail
      rw [show ((x : Int) % 41 + 1) = ((n + 1 : Nat) : Int) from by omega]
      refine EA.out.mono ?_
      rintro en w2 ⟨LA, RA, NA, lc, rc, nc, rfl, ho, hb2⟩
      have c1 := bch hb2 (one_below w2 (.cells #[.slice LA O.length lc, .slice RA 2 rc, .slice NA N.length nc, .int .i64 ((u : Int) + 1)] 31))
      have HA := Lib.hid (held_new (lc := lc) (rc := rc) (nc := nc) (a := O.length) (b := 2) (c := N.length) (u := (u : Int) + 1) ho.rdo)
      have HB2 := Lib.hid (bch (one_below wr _) c1)
      clear ho hb2 c1
      go_wp2_with fail
      rw [show ((x : Int) % 41) = (n : Int) from by omega]
      have EB2 := EB.out (w2.alloc (.cells #[.slice LA O.length lc, .slice RA 2 rc, .slice NA N.length nc, .int .i64 ((u : Int) + 1)] 31))
      rw [show (w2.alloc (.cells #[.slice LA O.length lc, .slice RA 2 rc, .slice NA N.length nc, .int .i64 ((u : Int) + 1)] 31)).heap.size = w2.heap.size + 1 from by simp] at EB2
      refine EB2.mono ?_
      rintro en w3 ⟨LB, RB, NB, ld, rd, nd, rfl, ho, hb3⟩
      have c1 := bch (one_below _ _) (bch hb3 (one_below w3 (.cells #[.slice LB O.length ld, .slice RB 1 rd, .slice NB N.length nd, .int .i64 u] 31)))
      have HA := Lib.hid (HA.out.below c1)
      have HBB := Lib.hid (held_new (lc := ld) (rc := rd) (nc := nd) (a := O.length) (b := 1) (c := N.length) (u := (u : Int)) ho.rdo)
      have HB4 := Lib.hid (bch HB2.out c1)
      clear ho hb3 c1
      go_wp2_with fail
      generalize w3.alloc (.cells #[.slice LB O.length ld, .slice RB 1 rd, .slice NB N.length nd, .int .i64 u] 31) = W at HA HBB HB4 ⊢
      have HA0 := Lib.hid (HA.out.below (below_drew W))
      have HB0 := Lib.hid (HBB.out.below (below_drew W))
      obtain ⟨rb, ro, rfl, hcell⟩ := HA0.out.rd.reads (by show 0 < 2; omega)
      have a0 := HA0.out.c0
      have a1 := HA0.out.c1
      have a2 := HA0.out.c2
      have a3 := HA0.out.c3
      have a4 : W.drew.cell? ⟨rb, ro + 1, none⟩ = some (.string ⟨#[98]⟩) := hcell 1 [98] rfl
      have b0 := HB0.out.c0
      have b2 := HB0.out.c2
      have b3 := HB0.out.c3
      have HW0 := Lib.hid (bch HB4.out (below_drew W))
      have hu1 : (0 : Int) ≤ (u : Int) := by omega
      have hu2 : (u : Int) ≤ 40 := by have := HU.out; omega
      have hwrap : IntKind.i64.wrap ((u : Int) + 1) = (u : Int) + 1 := IntWalk.i64_in _ (by omega)
      have heq : ((u : Int) + 1 == IntKind.i64.wrap ((u : Int) + 1)) = true := by rw [hwrap]; simp
      have CR := Lib.hid (fun (A : Option Addr) (c : Nat) W1 (h : Rd W1 A O) => refs_any A c O W1 h (by have := SMB.out.1; simp only at this; omega))
      have CS := Lib.hid (fun (A B : Option Addr) (c d : Nat) W1 (h : Rd W1 A O) (g : Rd W1 B O) => same_any A B c d O O W1 h g (by have := SMB.out.1; simp only at this; omega) (by have := SMB.out.1; simp only at this; omega))
      have CN := Lib.hid (fun (A B : Option Addr) (c d : Nat) W1 (h : Rd W1 A N) (g : Rd W1 B N) => rnotes_any A B c d N N W1 h g (by have := SMB.out.2.2; simp only at this; omega) (by have := SMB.out.2.2; simp only at this; omega))
      simp only [decide_true] at CS CN
      have KEEP := Lib.hid (fun (v : World) (h : Below W.drew.heap.size W.drew v) => (⟨cell_below h a0, cell_below h a1, cell_below h a2, cell_below h a3, cell_below h b0, cell_below h b2, cell_below h b3, cell_below h a4⟩ :
        v.cell? ⟨w2.heap.size, 0, none⟩ = some (.slice LA O.length lc) ∧ v.cell? ⟨w2.heap.size, 1, none⟩ = some (.slice (some ⟨rb, ro, none⟩) 2 rc) ∧ v.cell? ⟨w2.heap.size, 2, none⟩ = some (.slice NA N.length nc) ∧ v.cell? ⟨w2.heap.size, 3, none⟩ = some (.int .i64 ((u : Int) + 1)) ∧
        v.cell? ⟨w3.heap.size, 0, none⟩ = some (.slice LB O.length ld) ∧ v.cell? ⟨w3.heap.size, 2, none⟩ = some (.slice NB N.length nd) ∧ v.cell? ⟨w3.heap.size, 3, none⟩ = some (.int .i64 (u : Int)) ∧ v.cell? ⟨rb, ro + 1, none⟩ = some (.string ⟨#[98]⟩)))
      clear hcell HA HBB FA EA EB2 EB HNO hlt hi hrl HU SMB HB2 HB4
      go_region_held3 (fun v => v.cell? ⟨w2.heap.size, 0, none⟩ = some (.slice LA O.length lc) ∧ v.cell? ⟨w2.heap.size, 1, none⟩ = some (.slice (some ⟨rb, ro, none⟩) 2 rc) ∧ v.cell? ⟨w2.heap.size, 2, none⟩ = some (.slice NA N.length nc) ∧ v.cell? ⟨w2.heap.size, 3, none⟩ = some (.int .i64 ((u : Int) + 1)) ∧
        v.cell? ⟨w3.heap.size, 0, none⟩ = some (.slice LB O.length ld) ∧ v.cell? ⟨w3.heap.size, 2, none⟩ = some (.slice NB N.length nd) ∧ v.cell? ⟨w3.heap.size, 3, none⟩ = some (.int .i64 (u : Int)) ∧ v.cell? ⟨rb, ro + 1, none⟩ = some (.string ⟨#[98]⟩))
        (first
          | exact KEEP.out _ HV5.out
          | exact KEEP.out _ HV4.out
          | exact KEEP.out _ HV3.out
          | exact KEEP.out _ HV2.out
          | exact KEEP.out _ HV1.out
          | exact KEEP.out _ (.refl _ _)
          | go_keep)
        (first
          | (go_at_call 15; refine (fixed_any v4).mono ?_; rintro e v5 ⟨rfl, hv5⟩; have HV5 := Lib.hid (bch HV4.out hv5); clear hv5)
          | (go_at_call 22; refine (CN.out NA NB nc nd v3 HA3.out.rd.notes HB3.out.rd.notes).mono ?_; rintro e v4 ⟨rfl, q4, hq4⟩; have HV4 := Lib.hid (show Below W.drew.heap.size W.drew v4 by rw [hq4]; exact bch HV3.out (drewN_below _ q4)); clear hq4)
          | (go_at_call 19; refine (CS.out B1 B2 d1 d2 v2 HR12.out HR2.out).mono ?_; rintro e v3 ⟨rfl, q3, hq3⟩; have HV3 := Lib.hid (show Below W.drew.heap.size W.drew v3 by rw [hq3]; exact bch HV2.out (drewN_below _ q3)); have HB3 := Lib.hid (HB0.out.below HV3.out); have HA3 := Lib.hid (HA0.out.below HV3.out); clear hq3)
          | (go_at_call 20; refine (CR.out LB ld v1 HB1.out.rd.l).mono ?_; rintro e v2 ⟨B2, d2, rfl, ho2, hv2⟩; have HV2 := Lib.hid (bch HV1.out hv2); have HR2 := Lib.hid ho2.rd; have HR12 := Lib.hid (HR1.out.below hv2); clear hv2 ho2)
          | (go_at_call 20; refine (CR.out LA lc W.drew HA0.out.rd.l).mono ?_; rintro e v1 ⟨B1, d1, rfl, ho1, hv1⟩; have HV1 := Lib.hid hv1; have HR1 := Lib.hid ho1.rd; have HB1 := Lib.hid (HB0.out.below hv1); clear hv1 ho1))
      all_goals
        go_wp2
        go_ret
        exact ⟨rfl, bch HW0.out HV5.out⟩
end Go.Proofs.YtmnbepapgghdaaaGreat

namespace Go.Proofs.YtmnbepapgghdaaaGreat
open Go.RowKit Go.Deep Go.ChangeShapes Go.WideShapes Go.Joins

theorem bytes_list (s : ByteArray) : Value.string s = .string ⟨s.data.toList.toArray⟩ := by
  obtain ⟨⟨l⟩⟩ := s; rfl
theorem addr_lit {w : World} {a : Addr} {v : Value} (h : w.cell? a = some v) : ∃ b o, a = ⟨b, o, none⟩ := by
  have := World.cell?_spot h
  obtain ⟨b, o, s⟩ := a
  simp at this
  subst this
  exact ⟨b, o, rfl⟩
theorem add_plain (b o j : Nat) : (⟨b, o, none⟩ : Addr).add j = ⟨b, o + j, none⟩ := by unfold Addr.add; split <;> simp_all
theorem add_add (a : Addr) (i j : Nat) : (a.add i).add j = a.add (i + j) := by
  unfold Addr.add
  by_cases hi : i = 0 <;> by_cases hj : j = 0 <;> simp [hi, hj, Nat.add_assoc]
theorem view_gen {H α : Type} [Inhabited α] {enc : TypeId × Value → H} {W : World} {d : DataW H} {p : List MemPlace} {A : Option Addr} {len cap : Nat} {T e k : Nat} (g : α → List Value) (Q : α → Prop) (hT : Tryz.prog.underlying T = some (.slice e)) (hk : Tryz.prog.cellsOf e = k) (hk0 : 0 < k)
    (hg : ∀ x, (g x).length = k) (hr : ∀ n cs y, DataW.trod enc Tryz.prog W 0 (fun _ => true) true n e cs = some y → cs.length = k → ∃ x, cs = g x ∧ Q x)
    (h : DataW.Trod enc Tryz.prog W 0 (fun _ => true) true T (.slice A len cap) d p) :
    ∃ xs : List α, len = xs.length ∧ (0 < xs.length → ∃ b o, A = some ⟨b, o, none⟩ ∧ ∀ i x, xs[i]? = some x → ∀ j v, (g x)[j]? = some v → W.cell? ⟨b, o + i * k + j, none⟩ = some v) ∧ (∀ x ∈ xs, Q x) ∧ xs.length ≤ 9223372036854775807 := by
  obtain ⟨fuel, hf⟩ := h
  rcases open_slice hT hf with ⟨hcs, _⟩ | ⟨a, l, c, m, n, D, Pl, hcs, _, hl, hm, hmm, _, hall⟩
  · simp [Value.cells] at hcs
    obtain ⟨rfl, rfl, rfl⟩ := hcs
    exact ⟨[], rfl, fun h => absurd h (by simp), (fun f hf => by cases hf), by simp⟩
  · simp [Value.cells] at hcs
    obtain ⟨rfl, rfl, rfl⟩ := hcs
    simp only [if_true] at hmm
    unfold maxLen at hm
    rw [hk] at hall
    have each : ∀ i, i < len → ∃ x : α, (∀ j v, (g x)[j]? = some v → W.cell? (a.add (i * k + j)) = some v) ∧ Q x := fun i hi => by
      obtain ⟨cs', h1, h2⟩ := hall i (by omega)
      obtain ⟨_, h3, h4⟩ := World.cells?_some h1
      obtain ⟨x, rfl, hq⟩ := hr _ _ _ h2 h3
      refine ⟨x, fun j v hj => ?_, hq⟩
      have hjl : j < k := by rw [← hg x]; exact (List.getElem?_eq_some_iff.1 hj).1
      have := h4 j hjl
      rw [hj] at this
      rw [← this, add_add]
    obtain ⟨F, hF⟩ := choose_lt each
    refine ⟨(List.range len).map F, by simp, fun h0 => ?_, fun x hx => ?_, by simp; omega⟩
    · have h0' : 0 < len := by simpa using h0
      obtain ⟨v0, hv0⟩ : ∃ v, (g (F 0))[0]? = some v := ⟨_, List.getElem?_eq_getElem (by rw [hg]; exact hk0)⟩
      obtain ⟨b, o, rfl⟩ := addr_lit (by have := (hF 0 h0').1 0 v0 hv0; simpa [Addr.add] using this)
      refine ⟨b, o, rfl, fun i x hi j v hj => ?_⟩
      have hlt : i < len := by
        rcases Nat.lt_or_ge i len with q | q
        · exact q
        · rw [List.getElem?_eq_none (by simpa using q)] at hi; cases hi
      have e : F i = x := by
        rw [List.getElem?_map, List.getElem?_range hlt] at hi
        simpa using hi
      have := (hF i hlt).1
      rw [e] at this
      have := this j v hj
      rwa [add_plain, ← Nat.add_assoc] at this
    · obtain ⟨i, hi, rfl⟩ := List.mem_map.1 hx
      exact (hF i (by simpa using hi)).2
/-- A slice that reads as bytes. -/
def RdY (w : World) (A : Option Addr) (xs : List UInt8) : Prop :=
  0 < xs.length → ∃ b o, A = some ⟨b, o, none⟩ ∧ ∀ i x, xs[i]? = some x → w.cell? ⟨b, o + i, none⟩ = some (.int .u8 x.toNat)
theorem RdY.below {w w' : World} {A : Option Addr} {xs : List UInt8} (h : RdY w A xs) (hb : Below w.heap.size w w') : RdY w' A xs := fun h0 => by
  obtain ⟨b, o, e, hc⟩ := h h0
  exact ⟨b, o, e, fun i f hi => cell_below hb (hc i f hi)⟩
theorem Tryz.cells89 : Tryz.prog.cellsOf 89 = 2 := by kernel_rfl
theorem Tryz.cells9 : Tryz.prog.cellsOf 9 = 1 := by kernel_rfl
theorem Tryz.cells3 : Tryz.prog.cellsOf 3 = 1 := by kernel_rfl
theorem view_toks {H : Type} {enc : TypeId × Value → H} {W : World} {d : DataW H} {p : List MemPlace} {A : Option Addr} {len cap : Nat}
    (h : DataW.Trod enc Tryz.prog W 0 (fun _ => true) true 27 (.slice A len cap) d p) :
    ∃ fs : List Tok, len = fs.length ∧ Rd W A fs ∧ (∀ f ∈ fs, f.2.length ≤ 9223372036854775807) ∧ fs.length ≤ 9223372036854775807 := by
  obtain ⟨fuel, hf⟩ := h
  rcases open_slice_pairs Tryz.underlying27 Tryz.underlying89 Tryz.cells89 rfl rfl Tryz.cells3 Tryz.cells9 hf with ⟨hcs, _⟩ | ⟨a, l, c, m, n, V0, V1, D0, D1, P0, P1, hcs, _, hl, hm, hmm, _, hall⟩
  · simp [Value.cells] at hcs
    obtain ⟨rfl, rfl, rfl⟩ := hcs
    exact ⟨[], rfl, fun h => absurd h (by simp), (fun f hf => by cases hf), by simp⟩
  · simp [Value.cells] at hcs
    obtain ⟨rfl, rfl, rfl⟩ := hcs
    simp only [if_true] at hmm
    unfold maxLen at hm
    have each : ∀ i, i < len → ∃ f : Tok, W.cell? (a.add (i * 2)) = some (.int .i64 f.1) ∧ W.cell? (a.add (i * 2 + 1)) = some (.string ⟨f.2.toArray⟩) ∧ f.2.length ≤ 9223372036854775807 := fun i hi => by
      obtain ⟨c0, c1, t0, t1⟩ := hall i (by omega)
      obtain ⟨s0, e0, _, _⟩ := DataW.trod_int Tryz.underlying3 t0
      obtain ⟨s1, e1, _, z1⟩ := DataW.trod_string Tryz.underlying9 t1
      simp only [List.cons.injEq, and_true] at e0 e1
      unfold maxLen at z1
      refine ⟨(s0, s1.data.toList), by rw [c0, e0], by rw [c1, e1, bytes_list], ?_⟩
      · show s1.data.toList.length ≤ _
        have := size_list s1
        omega
    obtain ⟨F, hF⟩ := choose_lt (α := Tok) each
    refine ⟨(List.range len).map F, by simp, fun h0 => ?_, fun f hf => ?_, by simp; omega⟩
    · have h0' : 0 < len := by simpa using h0
      obtain ⟨b, o, rfl⟩ := addr_lit (by have := (hF 0 h0').1; simpa [Addr.add] using this)
      refine ⟨b, o, rfl, fun i f hi => ?_⟩
      have hlt : i < len := by
        rcases Nat.lt_or_ge i len with q | q
        · exact q
        · rw [List.getElem?_eq_none (by simpa using q)] at hi; cases hi
      have e : F i = f := by
        rw [List.getElem?_map, List.getElem?_range hlt] at hi
        simpa using hi
      have := hF i hlt
      rw [e, add_plain, add_plain] at this
      exact ⟨this.1, by rw [Nat.add_assoc]; exact this.2.1⟩
    · obtain ⟨i, hi, rfl⟩ := List.mem_map.1 hf
      exact (hF i (by simpa using hi)).2.2

theorem byte_int (k : Nat) (h : k < 256) : ((UInt8.ofNat k).toNat : Int) = (k : Int) := by
  rw [UInt8.toNat_ofNat', Nat.mod_eq_of_lt h]
theorem byte_of {n : Int} (h : (Lit.int .u8 n).wf = true) : ∃ c : UInt8, n = (c.toNat : Int) := by
  have e1 : IntKind.u8.min = 0 := by rfl
  have e2 : IntKind.u8.max = 255 := by rfl
  simp [Lit.wf, e1, e2] at h
  exact ⟨UInt8.ofNat n.toNat, by rw [byte_int _ (by omega)]; omega⟩
theorem view_bytes {H : Type} {enc : TypeId × Value → H} {W : World} {d : DataW H} {p : List MemPlace} {A : Option Addr} {len cap : Nat} (h : DataW.Trod enc Tryz.prog W 0 (fun _ => true) true 57 (.slice A len cap) d p) :
    ∃ xs : List UInt8, len = xs.length ∧ RdY W A xs ∧ xs.length ≤ 9223372036854775807 := by
  obtain ⟨xs, h1, h2, _, h4⟩ := view_gen (k := 1) (fun x : UInt8 => [.int .u8 x.toNat]) (fun _ => True) Tryz.underlying57 (by kernel_rfl) (by omega) (fun _ => rfl) (fun n cs y hy _ => by
    obtain ⟨s, rfl, _, hw⟩ := DataW.trod_int Tryz.underlying5 hy
    obtain ⟨c, rfl⟩ := byte_of hw
    exact ⟨c, rfl, trivial⟩) h
  refine ⟨xs, h1, fun h0 => ?_, h4⟩
  obtain ⟨b, o, e, hc⟩ := h2 h0
  exact ⟨b, o, e, fun i x hx => by simpa using hc i x hx 0 _ rfl⟩
end Go.Proofs.YtmnbepapgghdaaaGreat

namespace Go.Proofs.YtmnbepapgghdaaaGreat
open Go.RowKit Go.Deep Go.ChangeShapes Go.WideShapes Go.Joins

theorem cel45 : Tryz.prog.cellsOf 45 = 2 := by kernel_rfl

namespace Fl
theorem view_files {H : Type} {enc : TypeId × Value → H} {W : World} {d : DataW H} {p : List MemPlace} {A : Option Addr} {len cap : Nat}
    (h : DataW.Trod enc Tryz.prog W 0 (fun _ => true) true 22 (.slice A len cap) d p) :
    ∃ fs : List Fl, len = fs.length ∧ Rd W A fs ∧ (∀ f ∈ fs, f.1.length ≤ 9223372036854775807 ∧ f.2.length ≤ 9223372036854775807) ∧ fs.length ≤ 9223372036854775807 := by
  obtain ⟨fuel, hf⟩ := h
  rcases open_slice_pairs Tryz.underlying22 Tryz.underlying45 cel45 rfl rfl Tryz.cells9 Tryz.cells9 hf with ⟨hcs, _⟩ | ⟨a, l, c, m, n, V0, V1, D0, D1, P0, P1, hcs, _, hl, hm, hmm, _, hall⟩
  · simp [Value.cells] at hcs
    obtain ⟨rfl, rfl, rfl⟩ := hcs
    exact ⟨[], rfl, fun h => absurd h (by simp), (fun f hf => by cases hf), by simp⟩
  · simp [Value.cells] at hcs
    obtain ⟨rfl, rfl, rfl⟩ := hcs
    simp only [if_true] at hmm
    unfold maxLen at hm
    have each : ∀ i, i < len → ∃ f : Fl, W.cell? (a.add (i * 2)) = some (.string ⟨f.1.toArray⟩) ∧ W.cell? (a.add (i * 2 + 1)) = some (.string ⟨f.2.toArray⟩) ∧ f.1.length ≤ 9223372036854775807 ∧ f.2.length ≤ 9223372036854775807 := fun i hi => by
      obtain ⟨c0, c1, t0, t1⟩ := hall i (by omega)
      obtain ⟨s0, e0, _, z0⟩ := DataW.trod_string Tryz.underlying9 t0
      obtain ⟨s1, e1, _, z1⟩ := DataW.trod_string Tryz.underlying9 t1
      simp only [List.cons.injEq, and_true] at e0 e1
      unfold maxLen at z0 z1
      refine ⟨(s0.data.toList, s1.data.toList), by rw [c0, e0, bytes_list], by rw [c1, e1, bytes_list], ?_, ?_⟩
      · show s0.data.toList.length ≤ _
        have := size_list s0
        omega
      · show s1.data.toList.length ≤ _
        have := size_list s1
        omega
    obtain ⟨F, hF⟩ := choose_lt (α := Fl) each
    refine ⟨(List.range len).map F, by simp, fun h0 => ?_, fun f hf => ?_, by simp; omega⟩
    · have h0' : 0 < len := by simpa using h0
      obtain ⟨b, o, rfl⟩ := addr_lit (by have := (hF 0 h0').1; simpa [Addr.add] using this)
      refine ⟨b, o, rfl, fun i f hi => ?_⟩
      have hlt : i < len := by
        rcases Nat.lt_or_ge i len with q | q
        · exact q
        · rw [List.getElem?_eq_none (by simpa using q)] at hi; cases hi
      have e : F i = f := by
        rw [List.getElem?_map, List.getElem?_range hlt] at hi
        simpa using hi
      have := hF i hlt
      rw [e, add_plain, add_plain] at this
      exact ⟨this.1, by rw [Nat.add_assoc]; exact this.2.1⟩
    · obtain ⟨i, hi, rfl⟩ := List.mem_map.1 hf
      exact (hF i (by simpa using hi)).2.2
set_option maxRecDepth 100000 in
theorem view_file {H : Type} {enc : TypeId × Value → H} {W : World} {r : Reach} {b0 : Nat} {v : Value} {d : DataW H} {p : List MemPlace} (hv : Value.okWide Tryz.prog W r b0 45 v)
    (h : DataW.Trod enc Tryz.prog W 0 (fun _ => true) true 45 v d p) : ∃ f : Fl, v = .agg #[.string ⟨f.1.toArray⟩, .string ⟨f.2.toArray⟩] ∧ f.1.length ≤ 9223372036854775807 ∧ f.2.length ≤ 9223372036854775807 := by
  obtain ⟨c0, c1, y0, y1, m, rfl, _, _, t0, t1⟩ := open_agg2 Tryz.underlying45 (by kernel_rfl) cel45 hv h
  obtain ⟨s0, e0, _, z0⟩ := DataW.trod_string Tryz.underlying9 t0
  obtain ⟨s1, e1, _, z1⟩ := DataW.trod_string Tryz.underlying9 t1
  simp only [List.cons.injEq, and_true] at e0 e1
  subst e0 e1
  unfold maxLen at z0 z1
  refine ⟨(s0.data.toList, s1.data.toList), by rw [bytes_list s0, bytes_list s1], ?_, ?_⟩
  · show s0.data.toList.length ≤ _
    have := size_list s0
    omega
  · show s1.data.toList.length ≤ _
    have := size_list s1
    omega
end Fl
theorem u8_bounds {n : Int} (h : (Lit.int .u8 n).wf = true) : ∃ x : Nat, n = (x : Int) ∧ x ≤ 255 := by
  simp [Lit.wf, IntKind.min, IntKind.max, IntKind.signed, IntKind.bits] at h
  exact ⟨n.toNat, by omega, by omega⟩
theorem und49 : Tryz.prog.underlying 49 = some (.array 2 5) := by kernel_rfl
theorem und5 : Tryz.prog.underlying 5 = some (.int .u8) := by kernel_rfl
theorem cel49 : Tryz.prog.cellsOf 49 = 2 := by kernel_rfl
theorem cel5 : Tryz.prog.cellsOf 5 = 1 := by kernel_rfl
theorem two_of {cs : Array Value} (h : cs.size = 2) : ∃ a b, cs = #[a, b] := by
  obtain ⟨l⟩ := cs
  match l, h with
  | [a, b], _ => exact ⟨a, b, rfl⟩
set_option maxRecDepth 100000 in
theorem view_u8x2 {H : Type} {enc : TypeId × Value → H} {W : World} {r : Reach} {b0 : Nat} {v : Value} {d : DataW H} {p : List MemPlace} (hv : Value.okWide Tryz.prog W r b0 49 v)
    (h : DataW.Trod enc Tryz.prog W 0 (fun _ => true) true 49 v d p) : ∃ x y : Nat, v = .agg #[.int .u8 x, .int .u8 y] ∧ x ≤ 255 ∧ y ≤ 255 := by
  simp only [Value.okWide, und49] at hv
  obtain ⟨cs, rfl, hsz, _⟩ := hv
  obtain ⟨c0, c1, rfl⟩ := two_of (hsz.trans cel49)
  obtain ⟨fuel, hf⟩ := h
  obtain ⟨xs, m, _, _, _, hl, hall⟩ := DataW.trod_array und49 hf
  have h0 := hall 0 (by omega)
  have h1 := hall 1 (by omega)
  rw [cel5] at h0 h1
  obtain ⟨y0, hy0⟩ : ∃ y, xs[0]? = some y := ⟨_, List.getElem?_eq_getElem (by omega)⟩
  obtain ⟨y1, hy1⟩ : ∃ y, xs[1]? = some y := ⟨_, List.getElem?_eq_getElem (by omega)⟩
  rw [hy0] at h0
  rw [hy1] at h1
  obtain ⟨s0, e0, _, z0⟩ := DataW.trod_int und5 h0
  obtain ⟨s1, e1, _, z1⟩ := DataW.trod_int und5 h1
  have n0 : c0 = .int .u8 s0 := List.head_eq_of_cons_eq (show [c0] = [.int .u8 s0] from e0)
  have n1 : c1 = .int .u8 s1 := List.head_eq_of_cons_eq (show [c1] = [.int .u8 s1] from e1)
  rw [n0, n1]
  obtain ⟨x, rfl, hx⟩ := u8_bounds z0
  obtain ⟨y, rfl, hy⟩ := u8_bounds z1
  exact ⟨x, y, rfl, hx, hy⟩
end Go.Proofs.YtmnbepapgghdaaaGreat
