/-
  ExpandCalls: its walk.
  Arguments that came in, read as plain lists: tokens, bytes.
  Arguments that came in, read as plain lists: files; two bytes.
-/
import Derived.Test.YtmnbepapgghdaaaGreatK34
import Derived.Test.YtmnbepapgghdaaaGreatK36
import Derived.Test.YtmnbepapgghdaaaGreatK37
import Derived.Test.YtmnbepapgghdaaaGreatK07
import Derived.Lib.SlBytesConst
import Derived.Lib.SmallJoins
import Derived.Deep.CutBlock
import Derived.Test.YtmnbepapgghdaaaGreatK03
import Derived.Deep.SlicePairs
import Derived.ProofKit
import Derived.OpenShut
import Derived.Test.YtmnbepapgghdaaaGreatK22
namespace Go.Proofs.YtmnbepapgghdaaaGreat
open Go.RowKit

/-- The answer to a text whose expansion is known. -/
theorem of_is {l : By} {r : Res8} (w : World) (n a b c : Nat) (u : Int) (hn : n ≤ 50) (hl : l.length ≤ 1000) (h : outX (expE Fl.nmOk (flF [([109], l)]) n 100 [109]) = r) (e1 : r.1.length = a) (e2 : r.2.1.length = b) (e3 : r.2.2.1.length = c) (e4 : (r.2.2.2 : Int) = u) :
    Calls Tryz.prog 17 #[.string ⟨l.toArray⟩, .int .i64 n] w (Ans w r a b c u) := by
  have q := of_any l n w hn hl
  rw [h] at q
  subst e1 e2 e3 e4
  exact q.mono fun en w' ⟨LA, RA, NA, lc, rc, nc, q1, q2, q3⟩ => ⟨LA, RA, NA, lc, rc, nc, q1, q2.rdo, q3⟩
theorem cat_aa (s t : By) : (((((⟨#[92, 100, 101, 102, 123, 112, 97, 105, 114, 125, 123, 50, 125, 123, 35, 50, 32, 35, 49, 125, 92, 112, 97, 105, 114, 123]⟩ : ByteArray) ++ ⟨s.toArray⟩) ++ ⟨#[125, 32, 123]⟩) ++ ⟨t.toArray⟩) ++ ⟨#[125]⟩) = ⟨(tP ++ (s ++ (tMid ++ (t ++ [125])))).toArray⟩ := by
  rw [← app_str, ← app_str, ← app_str, ← app_str, ← ByteArray.append_assoc, ← ByteArray.append_assoc, ← ByteArray.append_assoc]
  rfl
theorem cat_bb (s t : By) : (((((⟨#[92, 100, 101, 102, 123, 105, 110, 125, 123, 48, 125, 123, 92, 111, 117, 116, 125, 92, 100, 101, 102, 123, 111, 117, 116, 125, 123, 48, 125, 123]⟩ : ByteArray) ++ ⟨s.toArray⟩) ++ ⟨#[125, 92, 105, 110, 123, 125, 92, 100, 101, 102, 123, 111, 117, 116, 125, 123, 48, 125, 123]⟩) ++ ⟨t.toArray⟩) ++ ⟨#[125, 92, 105, 110]⟩) = ⟨(tB1 ++ (s ++ (tB2 ++ (t ++ tB3)))).toArray⟩ := by
  rw [← app_str, ← app_str, ← app_str, ← app_str, ← ByteArray.append_assoc, ← ByteArray.append_assoc, ← ByteArray.append_assoc]
  rfl
theorem cat_cc (s : By) : (((⟨#[92, 100, 101, 102, 123, 111, 110, 101, 125, 123, 48, 125, 123]⟩ : ByteArray) ++ ⟨s.toArray⟩) ++ ⟨#[125, 92, 117, 110, 100, 101, 102, 123, 111, 110, 101, 125, 92, 111, 110, 101]⟩) = ⟨(tO1 ++ (s ++ tO2)).toArray⟩ := by
  rw [← app_str, ← app_str, ← ByteArray.append_assoc]
  rfl
theorem cat_wa (s t : By) : (((⟨t.toArray⟩ : ByteArray) ++ ⟨#[32]⟩) ++ ⟨s.toArray⟩) = ⟨(t ++ (32 :: s)).toArray⟩ := by
  rw [show t ++ (32 :: s) = t ++ ([32] ++ s) from rfl, ← app_str, ← app_str, ← ByteArray.append_assoc]
theorem cat_wb (s t : By) : (((⟨s.toArray⟩ : ByteArray) ++ ⟨#[123, 125]⟩) ++ ⟨t.toArray⟩) = ⟨(s ++ ([123, 125] ++ t)).toArray⟩ := by
  rw [← app_str, ← app_str, ← ByteArray.append_assoc]
theorem cat_en (x y : UInt8) (l : By) : (((⟨#[x]⟩ : ByteArray) ++ ⟨l.toArray⟩) ++ ⟨#[y]⟩) = ⟨(x :: (l ++ [y])).toArray⟩ := by
  rw [show x :: (l ++ [y]) = [x] ++ (l ++ [y]) from rfl, ← app_str, ← app_str, ← ByteArray.append_assoc]
theorem sim_en {x y : UInt8} {l : By} (hx : ltr x = true) (hy : ltr y = true) (h : ∀ c ∈ l, simB c = true) : Sim (x :: (l ++ [y])) := by
  refine ⟨fun c hc => ?_, fun c hc => ?_⟩
  · rcases List.mem_cons.1 hc with rfl | hc
    · unfold simB; rw [hx]; rfl
    · rcases List.mem_append.1 hc with hc | hc
      · exact h c hc
      · simp at hc; subst hc; unfold simB; rw [hy]; rfl
  · rw [← List.cons_append, List.getLast?_concat] at hc
    cases hc
    exact hy
theorem app_one (l : By) (x : UInt8) : (⟨l.toArray⟩ : ByteArray) ++ ⟨#[x]⟩ = ⟨(l ++ [x]).toArray⟩ := app_str l [x]
theorem simB_app {l : By} {x : UInt8} (h : ∀ c ∈ l, simB c = true) (hx : simB x = true) : ∀ c ∈ l ++ [x], simB c = true := fun c hc => by
  rcases List.mem_append.1 hc with hc | hc
  · exact h c hc
  · simp at hc; rw [hc]; exact hx
/-- A byte out of a row of bytes, laid in a row of its own. -/
theorem pick_facts (wr : World) (C : Array Value) (x : Nat) (c : UInt8) (z : Int) (hz : (c.toNat : Int) = z) (hC : C[x]? = some (.int .u8 z)) :
    (wr.alloc (.cells C 5 (C.size, C.size + 1))).cell? ⟨wr.heap.size, x, none⟩ = some (.int .u8 z) ∧
    (convert 57 9 (.slice (some ⟨wr.heap.size + 1, 0, none⟩) 1 1)).run Tryz.prog ((wr.alloc (.cells C 5 (C.size, C.size + 1))).alloc (.cells #[.int .u8 z] 5)) = .ok (.string ⟨#[c]⟩) ((wr.alloc (.cells C 5 (C.size, C.size + 1))).alloc (.cells #[.int .u8 z] 5)) := by
  subst hz
  have s1 : (wr.alloc (.cells C 5 (C.size, C.size + 1))).heap.size = wr.heap.size + 1 := by simp
  refine ⟨by rw [World.cell?_alloc_mark]; exact hC, ?_⟩
  rw [← s1]
  exact byte_str _ _ c (by rw [World.cell?_alloc_new]; rfl) 1
theorem mod_four (c : UInt8) {x : Int} (h : (wrap64 (c.toNat : Int)).tmod 4 = x) : x = 0 ∨ x = 1 ∨ x = 2 ∨ x = 3 := by
  have e : wrap64 (c.toNat : Int) = c.toNat := IntWalk.wrap64_in _ (by have := c.toNat_lt; omega)
  rw [e, Int.tmod_eq_emod_of_nonneg (by omega)] at h
  omega
set_option maxRecDepth 100000 in
set_option maxHeartbeats 4000000 in
theorem expandCalls_walk (a b : ByteArray) (w : World) (ha : a.size ≤ 9223372036854775807) (hb : b.size ≤ 9223372036854775807) :
    Calls Tryz.prog 7 #[.agg #[.string a, .string b]] w fun en w' => en = .returned (.bool true) ∧ Below w.heap.size w w' := by
  have B0 := Lib.hid (one_below w (.cells #[.string a, .string b] 56))
  have G0 := Lib.hid (new_fst w (.string a) (.string b) 56)
  have G1 := Lib.hid (new_snd w (.string a) (.string b) 56)
  have kc := fun (w : World) (C : Array Value) (n c : Nat) => Lib.run_convert_bytes_const (P := Tryz.prog) w 57 5 C n c Tryz.underlying57 Tryz.underlying5
  go_enter Tryz.func7, Tryz.ntmps7
  go_upto_block 0 with fail
  obtain ⟨W0, hW0⟩ : ∃ W0, w.alloc (.cells #[.string a, .string b] 56) = W0 := ⟨_, rfl⟩
  rw [hW0] at G0 G1 B0 ⊢
  clear hW0
  go_cut [3, 5] from 10 to 34 (fun v i wx => ∃ l : By, v = .string ⟨l.toArray⟩ ∧ l.length ≤ 30 ∧ Hid (∀ c ∈ l, simB c = true) ∧ Hid (Below W0.heap.size W0 wx))
  case first =>
    go_wp2_with fail
    go_loopw [3, 5] (fun v i wr => ∃ (k : Nat) (l : By), i = .int .i64 k ∧ v = .string ⟨l.toArray⟩ ∧ k ≤ a.size ∧ k ≤ 30 ∧ l.length ≤ k ∧ Hid (∀ c ∈ l, simB c = true) ∧ Hid (Below W0.heap.size W0 wr)) (fun _ i _ => 30 - (intOf i).toNat)
    case atStart => exact ⟨0, [], rfl, rfl, Nat.zero_le _, Nat.zero_le _, Nat.zero_le _, Lib.hid (fun c hc => by cases hc), Lib.hid (.refl _ _)⟩
    case round =>
      obtain ⟨k, l, rfl, rfl, hk, hk2, hll, HL, HB⟩ := hrel
      have g0 := cell_below HB.out G0.out
      by_cases hlt : k < a.size ∧ k < 30
      · obtain ⟨hlt, hl2⟩ := hlt
        have i1 : (k : Int) < (a.size : Int) := by omega
        have i2 : (k : Int) < 30 := by omega
        obtain ⟨x, hx⟩ : ∃ x : Int, (wrap64 (a[k].toNat : Int)).tmod 4 = x := ⟨_, rfl⟩
        have hx4 : x = 0 ∨ x = 1 ∨ x = 2 ∨ x = 3 := mod_four a[k] hx
        rcases hx4 with rfl | rfl | rfl | rfl
        · obtain ⟨p1, p2⟩ := pick_facts wr #[.int .u8 97, .int .u8 98, .int .u8 99, .int .u8 32] 0 97 97 rfl rfl
          have p1 : (wr.alloc (.cells #[.int .u8 97, .int .u8 98, .int .u8 99, .int .u8 32] 5 (4, 5))).cell? ⟨wr.heap.size, 0, none⟩ = some (.int .u8 97) := p1
          have p2 : (convert 57 9 (.slice (some ⟨wr.heap.size + 1, 0, none⟩) 1 1)).run Tryz.prog ((wr.alloc (.cells #[.int .u8 97, .int .u8 98, .int .u8 99, .int .u8 32] 5 (4, 5))).alloc (.cells #[.int .u8 97] 5)) = .ok (.string ⟨#[97]⟩) ((wr.alloc (.cells #[.int .u8 97, .int .u8 98, .int .u8 99, .int .u8 32] 5 (4, 5))).alloc (.cells #[.int .u8 97] 5)) := p2
          have p3 := cell_below (one_below wr (.cells #[.int .u8 97, .int .u8 98, .int .u8 99, .int .u8 32] 5 (4, 5))) g0
          go_wp2_with fail
          go_roundw
          case rel => exact ⟨k + 1, l ++ [97], by go_num, congrArg Value.string (app_one l 97), by omega, by omega, by simp; omega, Lib.hid (simB_app HL.out (by decide)), Lib.hid (bch HB.out (bch (one_below _ _) (one_below _ _)))⟩
          case measure => simp [intOf]; omega
        · obtain ⟨p1, p2⟩ := pick_facts wr #[.int .u8 97, .int .u8 98, .int .u8 99, .int .u8 32] 1 98 98 rfl rfl
          have p1 : (wr.alloc (.cells #[.int .u8 97, .int .u8 98, .int .u8 99, .int .u8 32] 5 (4, 5))).cell? ⟨wr.heap.size, 1, none⟩ = some (.int .u8 98) := p1
          have p2 : (convert 57 9 (.slice (some ⟨wr.heap.size + 1, 0, none⟩) 1 1)).run Tryz.prog ((wr.alloc (.cells #[.int .u8 97, .int .u8 98, .int .u8 99, .int .u8 32] 5 (4, 5))).alloc (.cells #[.int .u8 98] 5)) = .ok (.string ⟨#[98]⟩) ((wr.alloc (.cells #[.int .u8 97, .int .u8 98, .int .u8 99, .int .u8 32] 5 (4, 5))).alloc (.cells #[.int .u8 98] 5)) := p2
          have p3 := cell_below (one_below wr (.cells #[.int .u8 97, .int .u8 98, .int .u8 99, .int .u8 32] 5 (4, 5))) g0
          go_wp2_with fail
          go_roundw
          case rel => exact ⟨k + 1, l ++ [98], by go_num, congrArg Value.string (app_one l 98), by omega, by omega, by simp; omega, Lib.hid (simB_app HL.out (by decide)), Lib.hid (bch HB.out (bch (one_below _ _) (one_below _ _)))⟩
          case measure => simp [intOf]; omega
        · obtain ⟨p1, p2⟩ := pick_facts wr #[.int .u8 97, .int .u8 98, .int .u8 99, .int .u8 32] 2 99 99 rfl rfl
          have p1 : (wr.alloc (.cells #[.int .u8 97, .int .u8 98, .int .u8 99, .int .u8 32] 5 (4, 5))).cell? ⟨wr.heap.size, 2, none⟩ = some (.int .u8 99) := p1
          have p2 : (convert 57 9 (.slice (some ⟨wr.heap.size + 1, 0, none⟩) 1 1)).run Tryz.prog ((wr.alloc (.cells #[.int .u8 97, .int .u8 98, .int .u8 99, .int .u8 32] 5 (4, 5))).alloc (.cells #[.int .u8 99] 5)) = .ok (.string ⟨#[99]⟩) ((wr.alloc (.cells #[.int .u8 97, .int .u8 98, .int .u8 99, .int .u8 32] 5 (4, 5))).alloc (.cells #[.int .u8 99] 5)) := p2
          have p3 := cell_below (one_below wr (.cells #[.int .u8 97, .int .u8 98, .int .u8 99, .int .u8 32] 5 (4, 5))) g0
          go_wp2_with fail
          go_roundw
          case rel => exact ⟨k + 1, l ++ [99], by go_num, congrArg Value.string (app_one l 99), by omega, by omega, by simp; omega, Lib.hid (simB_app HL.out (by decide)), Lib.hid (bch HB.out (bch (one_below _ _) (one_below _ _)))⟩
          case measure => simp [intOf]; omega
        · obtain ⟨p1, p2⟩ := pick_facts wr #[.int .u8 97, .int .u8 98, .int .u8 99, .int .u8 32] 3 32 32 rfl rfl
          have p1 : (wr.alloc (.cells #[.int .u8 97, .int .u8 98, .int .u8 99, .int .u8 32] 5 (4, 5))).cell? ⟨wr.heap.size, 3, none⟩ = some (.int .u8 32) := p1
          have p2 : (convert 57 9 (.slice (some ⟨wr.heap.size + 1, 0, none⟩) 1 1)).run Tryz.prog ((wr.alloc (.cells #[.int .u8 97, .int .u8 98, .int .u8 99, .int .u8 32] 5 (4, 5))).alloc (.cells #[.int .u8 32] 5)) = .ok (.string ⟨#[32]⟩) ((wr.alloc (.cells #[.int .u8 97, .int .u8 98, .int .u8 99, .int .u8 32] 5 (4, 5))).alloc (.cells #[.int .u8 32] 5)) := p2
          have p3 := cell_below (one_below wr (.cells #[.int .u8 97, .int .u8 98, .int .u8 99, .int .u8 32] 5 (4, 5))) g0
          go_wp2_with fail
          go_roundw
          case rel => exact ⟨k + 1, l ++ [32], by go_num, congrArg Value.string (app_one l 32), by omega, by omega, by simp; omega, Lib.hid (simB_app HL.out (by decide)), Lib.hid (bch HB.out (bch (one_below _ _) (one_below _ _)))⟩
          case measure => simp [intOf]; omega
      · have hend : a.size ≤ k ∨ k < a.size := by omega
        rcases hend with h | h
        · have i1 : (a.size : Int) ≤ (k : Int) := by omega
          go_wp2_with fail
          go_meet
          case rel => exact ⟨l, rfl, by omega, HL, HB⟩
        · have i1 : (k : Int) < (a.size : Int) := by omega
          have i2 : (30 : Int) ≤ (k : Int) := by omega
          go_wp2_with fail
          go_meet
          case rel => exact ⟨l, rfl, by omega, HL, HB⟩
  case rest =>
    obtain ⟨l, rfl, hl30, HL, HBc⟩ := hcut
    have SA := Lib.hid (sim_en (x := 97) (y := 98) (by decide) (by decide) HL.out)
    have KA := Lib.hid (show hk (97 :: (l ++ [98])) = 1 from ltr_kd (by decide) _)
    have slen : (97 :: (l ++ [98])).length ≤ 40 := by simp; omega
    have CA := Lib.hid (cat_en 97 98 l)
    obtain ⟨s, hs⟩ : ∃ s : By, 97 :: (l ++ [98]) = s := ⟨_, rfl⟩
    rw [hs] at SA KA slen CA
    have G1 := Lib.hid (cell_below HBc.out G1.out)
    have B0 := Lib.hid (bch B0.out HBc.out)
    clear hs HL HBc G0
    go_upto_block 2 with fail
    go_cut [4, 6] from 35 to 59 (fun v i wx => ∃ l : By, v = .string ⟨l.toArray⟩ ∧ l.length ≤ 30 ∧ Hid (∀ c ∈ l, simB c = true) ∧ Hid (Below wc.heap.size wc wx))
    case first =>
      go_wp2_with fail
      go_loopw [4, 6] (fun v i wr => ∃ (k : Nat) (l : By), i = .int .i64 k ∧ v = .string ⟨l.toArray⟩ ∧ k ≤ b.size ∧ k ≤ 30 ∧ l.length ≤ k ∧ Hid (∀ c ∈ l, simB c = true) ∧ Hid (Below wc.heap.size wc wr)) (fun _ i _ => 30 - (intOf i).toNat)
      case atStart => exact ⟨0, [], rfl, rfl, Nat.zero_le _, Nat.zero_le _, Nat.zero_le _, Lib.hid (fun c hc => by cases hc), Lib.hid (.refl _ _)⟩
      case round =>
        obtain ⟨k, l, rfl, rfl, hk, hk2, hll, HL, HB⟩ := hrel
        have g0 := cell_below HB.out G1.out
        by_cases hlt : k < b.size ∧ k < 30
        · obtain ⟨hlt, hl2⟩ := hlt
          have i1 : (k : Int) < (b.size : Int) := by omega
          have i2 : (k : Int) < 30 := by omega
          obtain ⟨x, hx⟩ : ∃ x : Int, (wrap64 (b[k].toNat : Int)).tmod 4 = x := ⟨_, rfl⟩
          have hx4 : x = 0 ∨ x = 1 ∨ x = 2 ∨ x = 3 := mod_four b[k] hx
          rcases hx4 with rfl | rfl | rfl | rfl
          · obtain ⟨p1, p2⟩ := pick_facts wr #[.int .u8 120, .int .u8 121, .int .u8 122, .int .u8 32] 0 120 120 rfl rfl
            have p1 : (wr.alloc (.cells #[.int .u8 120, .int .u8 121, .int .u8 122, .int .u8 32] 5 (4, 5))).cell? ⟨wr.heap.size, 0, none⟩ = some (.int .u8 120) := p1
            have p2 : (convert 57 9 (.slice (some ⟨wr.heap.size + 1, 0, none⟩) 1 1)).run Tryz.prog ((wr.alloc (.cells #[.int .u8 120, .int .u8 121, .int .u8 122, .int .u8 32] 5 (4, 5))).alloc (.cells #[.int .u8 120] 5)) = .ok (.string ⟨#[120]⟩) ((wr.alloc (.cells #[.int .u8 120, .int .u8 121, .int .u8 122, .int .u8 32] 5 (4, 5))).alloc (.cells #[.int .u8 120] 5)) := p2
            have p3 := cell_below (one_below wr (.cells #[.int .u8 120, .int .u8 121, .int .u8 122, .int .u8 32] 5 (4, 5))) g0
            go_wp2_with fail
            go_roundw
            case rel => exact ⟨k + 1, l ++ [120], by go_num, congrArg Value.string (app_one l 120), by omega, by omega, by simp; omega, Lib.hid (simB_app HL.out (by decide)), Lib.hid (bch HB.out (bch (one_below _ _) (one_below _ _)))⟩
            case measure => simp [intOf]; omega
          · obtain ⟨p1, p2⟩ := pick_facts wr #[.int .u8 120, .int .u8 121, .int .u8 122, .int .u8 32] 1 121 121 rfl rfl
            have p1 : (wr.alloc (.cells #[.int .u8 120, .int .u8 121, .int .u8 122, .int .u8 32] 5 (4, 5))).cell? ⟨wr.heap.size, 1, none⟩ = some (.int .u8 121) := p1
            have p2 : (convert 57 9 (.slice (some ⟨wr.heap.size + 1, 0, none⟩) 1 1)).run Tryz.prog ((wr.alloc (.cells #[.int .u8 120, .int .u8 121, .int .u8 122, .int .u8 32] 5 (4, 5))).alloc (.cells #[.int .u8 121] 5)) = .ok (.string ⟨#[121]⟩) ((wr.alloc (.cells #[.int .u8 120, .int .u8 121, .int .u8 122, .int .u8 32] 5 (4, 5))).alloc (.cells #[.int .u8 121] 5)) := p2
            have p3 := cell_below (one_below wr (.cells #[.int .u8 120, .int .u8 121, .int .u8 122, .int .u8 32] 5 (4, 5))) g0
            go_wp2_with fail
            go_roundw
            case rel => exact ⟨k + 1, l ++ [121], by go_num, congrArg Value.string (app_one l 121), by omega, by omega, by simp; omega, Lib.hid (simB_app HL.out (by decide)), Lib.hid (bch HB.out (bch (one_below _ _) (one_below _ _)))⟩
            case measure => simp [intOf]; omega
          · obtain ⟨p1, p2⟩ := pick_facts wr #[.int .u8 120, .int .u8 121, .int .u8 122, .int .u8 32] 2 122 122 rfl rfl
            have p1 : (wr.alloc (.cells #[.int .u8 120, .int .u8 121, .int .u8 122, .int .u8 32] 5 (4, 5))).cell? ⟨wr.heap.size, 2, none⟩ = some (.int .u8 122) := p1
            have p2 : (convert 57 9 (.slice (some ⟨wr.heap.size + 1, 0, none⟩) 1 1)).run Tryz.prog ((wr.alloc (.cells #[.int .u8 120, .int .u8 121, .int .u8 122, .int .u8 32] 5 (4, 5))).alloc (.cells #[.int .u8 122] 5)) = .ok (.string ⟨#[122]⟩) ((wr.alloc (.cells #[.int .u8 120, .int .u8 121, .int .u8 122, .int .u8 32] 5 (4, 5))).alloc (.cells #[.int .u8 122] 5)) := p2
            have p3 := cell_below (one_below wr (.cells #[.int .u8 120, .int .u8 121, .int .u8 122, .int .u8 32] 5 (4, 5))) g0
            go_wp2_with fail
            go_roundw
            case rel => exact ⟨k + 1, l ++ [122], by go_num, congrArg Value.string (app_one l 122), by omega, by omega, by simp; omega, Lib.hid (simB_app HL.out (by decide)), Lib.hid (bch HB.out (bch (one_below _ _) (one_below _ _)))⟩
            case measure => simp [intOf]; omega
          · obtain ⟨p1, p2⟩ := pick_facts wr #[.int .u8 120, .int .u8 121, .int .u8 122, .int .u8 32] 3 32 32 rfl rfl
            have p1 : (wr.alloc (.cells #[.int .u8 120, .int .u8 121, .int .u8 122, .int .u8 32] 5 (4, 5))).cell? ⟨wr.heap.size, 3, none⟩ = some (.int .u8 32) := p1
            have p2 : (convert 57 9 (.slice (some ⟨wr.heap.size + 1, 0, none⟩) 1 1)).run Tryz.prog ((wr.alloc (.cells #[.int .u8 120, .int .u8 121, .int .u8 122, .int .u8 32] 5 (4, 5))).alloc (.cells #[.int .u8 32] 5)) = .ok (.string ⟨#[32]⟩) ((wr.alloc (.cells #[.int .u8 120, .int .u8 121, .int .u8 122, .int .u8 32] 5 (4, 5))).alloc (.cells #[.int .u8 32] 5)) := p2
            have p3 := cell_below (one_below wr (.cells #[.int .u8 120, .int .u8 121, .int .u8 122, .int .u8 32] 5 (4, 5))) g0
            go_wp2_with fail
            go_roundw
            case rel => exact ⟨k + 1, l ++ [32], by go_num, congrArg Value.string (app_one l 32), by omega, by omega, by simp; omega, Lib.hid (simB_app HL.out (by decide)), Lib.hid (bch HB.out (bch (one_below _ _) (one_below _ _)))⟩
            case measure => simp [intOf]; omega
        · have hend : b.size ≤ k ∨ k < b.size := by omega
          rcases hend with h | h
          · have i1 : (b.size : Int) ≤ (k : Int) := by omega
            go_wp2_with fail
            go_meet
            case rel => exact ⟨l, rfl, by omega, HL, HB⟩
          · have i1 : (k : Int) < (b.size : Int) := by omega
            have i2 : (30 : Int) ≤ (k : Int) := by omega
            go_wp2_with fail
            go_meet
            case rel => exact ⟨l, rfl, by omega, HL, HB⟩
    case rest =>
      obtain ⟨m, rfl, hm30, HL, HBc⟩ := hcut
      have SB := Lib.hid (sim_en (x := 120) (y := 121) (by decide) (by decide) HL.out)
      have tlen : (120 :: (m ++ [121])).length ≤ 40 := by simp; omega
      have CB := Lib.hid (cat_en 120 121 m)
      obtain ⟨t, ht⟩ : ∃ t : By, 120 :: (m ++ [121]) = t := ⟨_, rfl⟩
      rw [ht] at SB tlen CB
      clear ht HL G1
      have l1 := toks_len s
      have l2 := toks_len t
      have HA1 := Lib.hid (calls_a s t SA.out SB.out slen tlen)
      have HA2 := Lib.hid (calls_a_want s t SA.out SB.out KA.out)
      have HB1 := Lib.hid (calls_b s t SA.out SB.out slen tlen)
      have HB2 := Lib.hid (calls_b_want s t SA.out)
      have HC1 := Lib.hid (calls_c s SA.out)
      obtain ⟨T1, hT1⟩ : ∃ T1, toks t ++ ((2, []) :: toks s) = T1 := ⟨_, rfl⟩
      obtain ⟨T2, hT2⟩ : ∃ T2, toks s ++ ((5, []) :: (6, []) :: toks t) = T2 := ⟨_, rfl⟩
      obtain ⟨T3, hT3⟩ : ∃ T3 : List Tok, [(4, sOne)] = T3 := ⟨_, rfl⟩
      have n1 : T1.length ≤ 200 := by rw [← hT1]; simp; omega
      have n2 : T2.length ≤ 200 := by rw [← hT2]; simp; omega
      have n3 : T3.length ≤ 200 := by rw [← hT3]; simp
      have HC2 := Lib.hid (show toks [92, 111, 110, 101] = T3 by rw [← hT3]; kernel_rfl)
      rw [hT1] at HA1 HA2
      rw [hT2] at HB1 HB2
      rw [hT3] at HC1
      clear hT1 hT2 hT3 l1 l2
      have EA := Lib.hid (fun W => of_is (r := (T1, [[109]], [], 1)) W 9 T1.length 1 0 1 (by omega) (by simp [tP, tMid]; omega) HA1.out rfl rfl rfl rfl)
      have EB := Lib.hid (fun W => of_is (r := (T2, [[109]], [], 4)) W 9 T2.length 1 0 4 (by omega) (by simp [tB1, tB2, tB3]; omega) HB1.out rfl rfl rfl rfl)
      have EC := Lib.hid (fun W => of_is (r := (T3, [[109]], [], 0)) W 9 T3.length 1 0 0 (by omega) (by simp [tO1, tO2]; omega) HC1.out rfl rfl rfl rfl)
      have LA1 := Lib.hid (fun W => (show Calls Tryz.prog 21 #[.string ⟨(t ++ (32 :: s)).toArray⟩] W (Res 82 W T1) by rw [← HA2.out]; exact rlex_any ⟨(t ++ (32 :: s)).toArray⟩ W (by show (t ++ (32 :: s)).toArray.size ≤ _; simp; omega)))
      have LB1 := Lib.hid (fun W => (show Calls Tryz.prog 21 #[.string ⟨(s ++ ([123, 125] ++ t)).toArray⟩] W (Res 82 W T2) by rw [← HB2.out]; exact rlex_any ⟨(s ++ ([123, 125] ++ t)).toArray⟩ W (by show (s ++ ([123, 125] ++ t)).toArray.size ≤ _; simp; omega)))
      have LC1 := Lib.hid (fun W => (show Calls Tryz.prog 21 #[.string ⟨#[92, 111, 110, 101]⟩] W (Res 82 W T3) by rw [← HC2.out]; exact rlex_any ⟨#[92, 111, 110, 101]⟩ W (by show (#[92, 111, 110, 101] : Array UInt8).size ≤ _; simp)))
      have B0 := Lib.hid (bch B0.out HBc.out)
      clear HA1 HA2 HB1 HB2 HC1 HC2 SA SB KA HBc
      go_wp2_with fail
      rw [CA.out, CB.out, cat_aa]
      refine (EA.out wc).mono ?_
      rintro en w1 ⟨A1, A2, A3, a1, a2, a3, rfl, h1, b1⟩
      have c1 := bch b1 (one_below w1 (.cells #[.slice A1 T1.length a1, .slice A2 1 a2, .slice A3 0 a3, .int .i64 1] 31))
      have HA := Lib.hid (held_new (lc := a1) (rc := a2) (nc := a3) (a := T1.length) (b := 1) (c := 0) (u := 1) h1)
      have HB := Lib.hid (bch B0.out c1)
      clear h1 b1 c1
      go_wp2_with fail
      rw [cat_bb]
      refine (EB.out _).mono ?_
      rintro en w2 ⟨B1, B2, B3, b1, b2, b3, rfl, h2, d2⟩
      have c2 := bch d2 (one_below w2 (.cells #[.slice B1 T2.length b1, .slice B2 1 b2, .slice B3 0 b3, .int .i64 4] 31))
      have HA := Lib.hid (HA.out.below c2)
      have HBB := Lib.hid (held_new (lc := b1) (rc := b2) (nc := b3) (a := T2.length) (b := 1) (c := 0) (u := 4) h2)
      have HB := Lib.hid (bch HB.out c2)
      clear h2 d2 c2
      go_wp2_with fail
      rw [cat_cc]
      refine (EC.out _).mono ?_
      rintro en w3 ⟨C1, C2, C3, e1, e2, e3, rfl, h3, d3⟩
      have c3 := bch d3 (one_below w3 (.cells #[.slice C1 T3.length e1, .slice C2 1 e2, .slice C3 0 e3, .int .i64 0] 31))
      have HA := Lib.hid (HA.out.below c3)
      have HBB := Lib.hid (HBB.out.below c3)
      have HC := Lib.hid (held_new (lc := e1) (rc := e2) (nc := e3) (a := T3.length) (b := 1) (c := 0) (u := 0) h3)
      have HB := Lib.hid (bch HB.out c3)
      clear h3 d3 c3 EA EB EC CA CB
      have a0 := HA.out.c0
      go_wp2_with fail
      generalize w3.alloc (.cells #[.slice C1 T3.length e1, .slice C2 1 e2, .slice C3 0 e3, .int .i64 0] 31) = W1 at HA HBB HC HB a0 ⊢
      refine (refs_any A1 a1 T1 W1 HA.out.rd.l (by omega)).mono ?_
      rintro en W1a ⟨Q1, q1, rfl, r1, k1⟩
      have HQ := Lib.hid r1.rd
      have HA := Lib.hid (HA.out.below k1)
      have HBB := Lib.hid (HBB.out.below k1)
      have HC := Lib.hid (HC.out.below k1)
      have HB := Lib.hid (bch HB.out k1)
      clear r1 k1 a0
      go_wp2_with fail
      rw [cat_wa]
      refine (LA1.out W1a).mono ?_
      rintro en W1b ⟨P1, p1, rfl, r1, k1⟩
      have HP := Lib.hid r1.rd
      have HQ := Lib.hid (HQ.out.below k1)
      have HA := Lib.hid (HA.out.below k1)
      have HBB := Lib.hid (HBB.out.below k1)
      have HC := Lib.hid (HC.out.below k1)
      have HB := Lib.hid (bch HB.out k1)
      clear r1 k1
      go_wp2_with fail
      refine (same_any Q1 P1 q1 p1 T1 T1 W1b HQ.out HP.out (by omega) (by omega)).mono ?_
      simp only [decide_true]
      rintro en W2 ⟨rfl, q, hq⟩
      have k1 : Below W1b.heap.size W1b W2 := by rw [hq]; exact drewN_below _ q
      have HA := Lib.hid (HA.out.below k1)
      have HBB := Lib.hid (HBB.out.below k1)
      have HC := Lib.hid (HC.out.below k1)
      have HB := Lib.hid (bch HB.out k1)
      clear hq k1 HP HQ
      have a3 := HA.out.c3
      have a0 := HBB.out.c0
      go_wp2_with fail
      clear a3
      refine (refs_any B1 b1 T2 W2 HBB.out.rd.l (by omega)).mono ?_
      rintro en W2a ⟨Q2, q2, rfl, r2, k2⟩
      have HQ := Lib.hid r2.rd
      have HA := Lib.hid (HA.out.below k2)
      have HBB := Lib.hid (HBB.out.below k2)
      have HC := Lib.hid (HC.out.below k2)
      have HB := Lib.hid (bch HB.out k2)
      clear r2 k2 a0
      go_wp2_with fail
      rw [cat_wb]
      refine (LB1.out W2a).mono ?_
      rintro en W2b ⟨P2, p2, rfl, r2, k2⟩
      have HP := Lib.hid r2.rd
      have HQ := Lib.hid (HQ.out.below k2)
      have HA := Lib.hid (HA.out.below k2)
      have HBB := Lib.hid (HBB.out.below k2)
      have HC := Lib.hid (HC.out.below k2)
      have HB := Lib.hid (bch HB.out k2)
      clear r2 k2
      go_wp2_with fail
      refine (same_any Q2 P2 q2 p2 T2 T2 W2b HQ.out HP.out (by omega) (by omega)).mono ?_
      simp only [decide_true]
      rintro en W3 ⟨rfl, q, hq⟩
      have k2 : Below W2b.heap.size W2b W3 := by rw [hq]; exact drewN_below _ q
      have HA := Lib.hid (HA.out.below k2)
      have HBB := Lib.hid (HBB.out.below k2)
      have HC := Lib.hid (HC.out.below k2)
      have HB := Lib.hid (bch HB.out k2)
      clear hq k2 HP HQ
      have a3 := HBB.out.c3
      have a0 := HC.out.c0
      go_wp2_with fail
      clear a3
      refine (refs_any C1 e1 T3 W3 HC.out.rd.l (by omega)).mono ?_
      rintro en W3a ⟨Q3, q3, rfl, r3, k3⟩
      have HQ := Lib.hid r3.rd
      have HA := Lib.hid (HA.out.below k3)
      have HBB := Lib.hid (HBB.out.below k3)
      have HC := Lib.hid (HC.out.below k3)
      have HB := Lib.hid (bch HB.out k3)
      clear r3 k3 a0
      go_wp2_with fail
      refine (LC1.out W3a).mono ?_
      rintro en W3b ⟨P3, p3, rfl, r3, k3⟩
      have HP := Lib.hid r3.rd
      have HQ := Lib.hid (HQ.out.below k3)
      have HA := Lib.hid (HA.out.below k3)
      have HBB := Lib.hid (HBB.out.below k3)
      have HC := Lib.hid (HC.out.below k3)
      have HB := Lib.hid (bch HB.out k3)
      clear r3 k3
      go_wp2_with fail
      refine (same_any Q3 P3 q3 p3 T3 T3 W3b HQ.out HP.out (by omega) (by omega)).mono ?_
      simp only [decide_true]
      rintro en W4 ⟨rfl, q, hq⟩
      have k3 : Below W3b.heap.size W3b W4 := by rw [hq]; exact drewN_below _ q
      have HA := Lib.hid (HA.out.below k3)
      have HBB := Lib.hid (HBB.out.below k3)
      have HC := Lib.hid (HC.out.below k3)
      have HB := Lib.hid (bch HB.out k3)
      clear hq k3 HP HQ
      have a3 := HC.out.c3
      have z1 := HA.out.c2
      have z2 := HBB.out.c2
      have z3 := HC.out.c2
      go_wp2_with fail
      refine (fixed_any W4).mono ?_
      rintro en v ⟨rfl, bv⟩
      have HB := Lib.hid (bch HB.out bv)
      clear bv
      go_wp2
      go_ret
      exact ⟨rfl, HB.out⟩
end Go.Proofs.YtmnbepapgghdaaaGreat

namespace Go.Proofs.YtmnbepapgghdaaaGreat
open Go.RowKit Go.Deep Go.ChangeShapes Go.WideShapes Go.Joins

theorem bytes_list (s : ByteArray) : Value.string s = .string ⟨s.data.toList.toArray⟩ := by
  obtain ⟨⟨l⟩⟩ := s; rfl
theorem addr_lit {w : World} {a : Addr} {v : Value} (h : w.cell? a = some v) : ∃ b o, a = ⟨b, o, none⟩ := by
  have := World.cell?_spot h
  obtain ⟨b, o, s⟩ := a
  simp at this
  subst this
  exact ⟨b, o, rfl⟩
theorem add_plain (b o j : Nat) : (⟨b, o, none⟩ : Addr).add j = ⟨b, o + j, none⟩ := by unfold Addr.add; split <;> simp_all
theorem add_add (a : Addr) (i j : Nat) : (a.add i).add j = a.add (i + j) := by
  unfold Addr.add
  by_cases hi : i = 0 <;> by_cases hj : j = 0 <;> simp [hi, hj, Nat.add_assoc]
theorem view_gen {H α : Type} [Inhabited α] {enc : TypeId × Value → H} {W : World} {d : DataW H} {p : List MemPlace} {A : Option Addr} {len cap : Nat} {T e k : Nat} (g : α → List Value) (Q : α → Prop) (hT : Tryz.prog.underlying T = some (.slice e)) (hk : Tryz.prog.cellsOf e = k) (hk0 : 0 < k)
    (hg : ∀ x, (g x).length = k) (hr : ∀ n cs y, DataW.trod enc Tryz.prog W 0 (fun _ => true) true n e cs = some y → cs.length = k → ∃ x, cs = g x ∧ Q x)
    (h : DataW.Trod enc Tryz.prog W 0 (fun _ => true) true T (.slice A len cap) d p) :
    ∃ xs : List α, len = xs.length ∧ (0 < xs.length → ∃ b o, A = some ⟨b, o, none⟩ ∧ ∀ i x, xs[i]? = some x → ∀ j v, (g x)[j]? = some v → W.cell? ⟨b, o + i * k + j, none⟩ = some v) ∧ (∀ x ∈ xs, Q x) ∧ xs.length ≤ 9223372036854775807 := by
  obtain ⟨fuel, hf⟩ := h
  rcases open_slice hT hf with ⟨hcs, _⟩ | ⟨a, l, c, m, n, D, Pl, hcs, _, hl, hm, hmm, _, hall⟩
  · simp [Value.cells] at hcs
    obtain ⟨rfl, rfl, rfl⟩ := hcs
    exact ⟨[], rfl, fun h => absurd h (by simp), (fun f hf => by cases hf), by simp⟩
  · simp [Value.cells] at hcs
    obtain ⟨rfl, rfl, rfl⟩ := hcs
    simp only [if_true] at hmm
    unfold maxLen at hm
    rw [hk] at hall
    have each : ∀ i, i < len → ∃ x : α, (∀ j v, (g x)[j]? = some v → W.cell? (a.add (i * k + j)) = some v) ∧ Q x := fun i hi => by
      obtain ⟨cs', h1, h2⟩ := hall i (by omega)
      obtain ⟨_, h3, h4⟩ := World.cells?_some h1
      obtain ⟨x, rfl, hq⟩ := hr _ _ _ h2 h3
      refine ⟨x, fun j v hj => ?_, hq⟩
      have hjl : j < k := by rw [← hg x]; exact (List.getElem?_eq_some_iff.1 hj).1
      have := h4 j hjl
      rw [hj] at this
      rw [← this, add_add]
    obtain ⟨F, hF⟩ := choose_lt each
    refine ⟨(List.range len).map F, by simp, fun h0 => ?_, fun x hx => ?_, by simp; omega⟩
    · have h0' : 0 < len := by simpa using h0
      obtain ⟨v0, hv0⟩ : ∃ v, (g (F 0))[0]? = some v := ⟨_, List.getElem?_eq_getElem (by rw [hg]; exact hk0)⟩
      obtain ⟨b, o, rfl⟩ := addr_lit (by have := (hF 0 h0').1 0 v0 hv0; simpa [Addr.add] using this)
      refine ⟨b, o, rfl, fun i x hi j v hj => ?_⟩
      have hlt : i < len := by
        rcases Nat.lt_or_ge i len with q | q
        · exact q
        · rw [List.getElem?_eq_none (by simpa using q)] at hi; cases hi
      have e : F i = x := by
        rw [List.getElem?_map, List.getElem?_range hlt] at hi
        simpa using hi
      have := (hF i hlt).1
      rw [e] at this
      have := this j v hj
      rwa [add_plain, ← Nat.add_assoc] at this
    · obtain ⟨i, hi, rfl⟩ := List.mem_map.1 hx
      exact (hF i (by simpa using hi)).2
/-- A slice that reads as bytes. -/
def RdY (w : World) (A : Option Addr) (xs : List UInt8) : Prop :=
  0 < xs.length → ∃ b o, A = some ⟨b, o, none⟩ ∧ ∀ i x, xs[i]? = some x → w.cell? ⟨b, o + i, none⟩ = some (.int .u8 x.toNat)
theorem RdY.below {w w' : World} {A : Option Addr} {xs : List UInt8} (h : RdY w A xs) (hb : Below w.heap.size w w') : RdY w' A xs := fun h0 => by
  obtain ⟨b, o, e, hc⟩ := h h0
  exact ⟨b, o, e, fun i f hi => cell_below hb (hc i f hi)⟩
theorem Tryz.cells89 : Tryz.prog.cellsOf 89 = 2 := by kernel_rfl
theorem Tryz.cells9 : Tryz.prog.cellsOf 9 = 1 := by kernel_rfl
theorem Tryz.cells3 : Tryz.prog.cellsOf 3 = 1 := by kernel_rfl
theorem view_toks {H : Type} {enc : TypeId × Value → H} {W : World} {d : DataW H} {p : List MemPlace} {A : Option Addr} {len cap : Nat}
    (h : DataW.Trod enc Tryz.prog W 0 (fun _ => true) true 27 (.slice A len cap) d p) :
    ∃ fs : List Tok, len = fs.length ∧ Rd W A fs ∧ (∀ f ∈ fs, f.2.length ≤ 9223372036854775807) ∧ fs.length ≤ 9223372036854775807 := by
  obtain ⟨fuel, hf⟩ := h
  rcases open_slice_pairs Tryz.underlying27 Tryz.underlying89 Tryz.cells89 rfl rfl Tryz.cells3 Tryz.cells9 hf with ⟨hcs, _⟩ | ⟨a, l, c, m, n, V0, V1, D0, D1, P0, P1, hcs, _, hl, hm, hmm, _, hall⟩
  · simp [Value.cells] at hcs
    obtain ⟨rfl, rfl, rfl⟩ := hcs
    exact ⟨[], rfl, fun h => absurd h (by simp), (fun f hf => by cases hf), by simp⟩
  · simp [Value.cells] at hcs
    obtain ⟨rfl, rfl, rfl⟩ := hcs
    simp only [if_true] at hmm
    unfold maxLen at hm
    have each : ∀ i, i < len → ∃ f : Tok, W.cell? (a.add (i * 2)) = some (.int .i64 f.1) ∧ W.cell? (a.add (i * 2 + 1)) = some (.string ⟨f.2.toArray⟩) ∧ f.2.length ≤ 9223372036854775807 := fun i hi => by
      obtain ⟨c0, c1, t0, t1⟩ := hall i (by omega)
      obtain ⟨s0, e0, _, _⟩ := DataW.trod_int Tryz.underlying3 t0
      obtain ⟨s1, e1, _, z1⟩ := DataW.trod_string Tryz.underlying9 t1
      simp only [List.cons.injEq, and_true] at e0 e1
      unfold maxLen at z1
      refine ⟨(s0, s1.data.toList), by rw [c0, e0], by rw [c1, e1, bytes_list], ?_⟩
      · show s1.data.toList.length ≤ _
        have := size_list s1
        omega
    obtain ⟨F, hF⟩ := choose_lt (α := Tok) each
    refine ⟨(List.range len).map F, by simp, fun h0 => ?_, fun f hf => ?_, by simp; omega⟩
    · have h0' : 0 < len := by simpa using h0
      obtain ⟨b, o, rfl⟩ := addr_lit (by have := (hF 0 h0').1; simpa [Addr.add] using this)
      refine ⟨b, o, rfl, fun i f hi => ?_⟩
      have hlt : i < len := by
        rcases Nat.lt_or_ge i len with q | q
        · exact q
        · rw [List.getElem?_eq_none (by simpa using q)] at hi; cases hi
      have e : F i = f := by
        rw [List.getElem?_map, List.getElem?_range hlt] at hi
        simpa using hi
      have := hF i hlt
      rw [e, add_plain, add_plain] at this
      exact ⟨this.1, by rw [Nat.add_assoc]; exact this.2.1⟩
    · obtain ⟨i, hi, rfl⟩ := List.mem_map.1 hf
      exact (hF i (by simpa using hi)).2.2

theorem byte_int (k : Nat) (h : k < 256) : ((UInt8.ofNat k).toNat : Int) = (k : Int) := by
  rw [UInt8.toNat_ofNat', Nat.mod_eq_of_lt h]
theorem byte_of {n : Int} (h : (Lit.int .u8 n).wf = true) : ∃ c : UInt8, n = (c.toNat : Int) := by
  have e1 : IntKind.u8.min = 0 := by rfl
  have e2 : IntKind.u8.max = 255 := by rfl
  simp [Lit.wf, e1, e2] at h
  exact ⟨UInt8.ofNat n.toNat, by rw [byte_int _ (by omega)]; omega⟩
theorem view_bytes {H : Type} {enc : TypeId × Value → H} {W : World} {d : DataW H} {p : List MemPlace} {A : Option Addr} {len cap : Nat} (h : DataW.Trod enc Tryz.prog W 0 (fun _ => true) true 57 (.slice A len cap) d p) :
    ∃ xs : List UInt8, len = xs.length ∧ RdY W A xs ∧ xs.length ≤ 9223372036854775807 := by
  obtain ⟨xs, h1, h2, _, h4⟩ := view_gen (k := 1) (fun x : UInt8 => [.int .u8 x.toNat]) (fun _ => True) Tryz.underlying57 (by kernel_rfl) (by omega) (fun _ => rfl) (fun n cs y hy _ => by
    obtain ⟨s, rfl, _, hw⟩ := DataW.trod_int Tryz.underlying5 hy
    obtain ⟨c, rfl⟩ := byte_of hw
    exact ⟨c, rfl, trivial⟩) h
  refine ⟨xs, h1, fun h0 => ?_, h4⟩
  obtain ⟨b, o, e, hc⟩ := h2 h0
  exact ⟨b, o, e, fun i x hx => by simpa using hc i x hx 0 _ rfl⟩
end Go.Proofs.YtmnbepapgghdaaaGreat

namespace Go.Proofs.YtmnbepapgghdaaaGreat
open Go.RowKit Go.Deep Go.ChangeShapes Go.WideShapes Go.Joins

theorem cel45 : Tryz.prog.cellsOf 45 = 2 := by kernel_rfl

namespace Fl
theorem view_files {H : Type} {enc : TypeId × Value → H} {W : World} {d : DataW H} {p : List MemPlace} {A : Option Addr} {len cap : Nat}
    (h : DataW.Trod enc Tryz.prog W 0 (fun _ => true) true 22 (.slice A len cap) d p) :
    ∃ fs : List Fl, len = fs.length ∧ Rd W A fs ∧ (∀ f ∈ fs, f.1.length ≤ 9223372036854775807 ∧ f.2.length ≤ 9223372036854775807) ∧ fs.length ≤ 9223372036854775807 := by
  obtain ⟨fuel, hf⟩ := h
  rcases open_slice_pairs Tryz.underlying22 Tryz.underlying45 cel45 rfl rfl Tryz.cells9 Tryz.cells9 hf with ⟨hcs, _⟩ | ⟨a, l, c, m, n, V0, V1, D0, D1, P0, P1, hcs, _, hl, hm, hmm, _, hall⟩
  · simp [Value.cells] at hcs
    obtain ⟨rfl, rfl, rfl⟩ := hcs
    exact ⟨[], rfl, fun h => absurd h (by simp), (fun f hf => by cases hf), by simp⟩
  · simp [Value.cells] at hcs
    obtain ⟨rfl, rfl, rfl⟩ := hcs
    simp only [if_true] at hmm
    unfold maxLen at hm
    have each : ∀ i, i < len → ∃ f : Fl, W.cell? (a.add (i * 2)) = some (.string ⟨f.1.toArray⟩) ∧ W.cell? (a.add (i * 2 + 1)) = some (.string ⟨f.2.toArray⟩) ∧ f.1.length ≤ 9223372036854775807 ∧ f.2.length ≤ 9223372036854775807 := fun i hi => by
      obtain ⟨c0, c1, t0, t1⟩ := hall i (by omega)
      obtain ⟨s0, e0, _, z0⟩ := DataW.trod_string Tryz.underlying9 t0
      obtain ⟨s1, e1, _, z1⟩ := DataW.trod_string Tryz.underlying9 t1
      simp only [List.cons.injEq, and_true] at e0 e1
      unfold maxLen at z0 z1
      refine ⟨(s0.data.toList, s1.data.toList), by rw [c0, e0, bytes_list], by rw [c1, e1, bytes_list], ?_, ?_⟩
      · show s0.data.toList.length ≤ _
        have := size_list s0
        omega
      · show s1.data.toList.length ≤ _
        have := size_list s1
        omega
    obtain ⟨F, hF⟩ := choose_lt (α := Fl) each
    refine ⟨(List.range len).map F, by simp, fun h0 => ?_, fun f hf => ?_, by simp; omega⟩
    · have h0' : 0 < len := by simpa using h0
      obtain ⟨b, o, rfl⟩ := addr_lit (by have := (hF 0 h0').1; simpa [Addr.add] using this)
      refine ⟨b, o, rfl, fun i f hi => ?_⟩
      have hlt : i < len := by
        rcases Nat.lt_or_ge i len with q | q
        · exact q
        · rw [List.getElem?_eq_none (by simpa using q)] at hi; cases hi
      have e : F i = f := by
        rw [List.getElem?_map, List.getElem?_range hlt] at hi
        simpa using hi
      have := hF i hlt
      rw [e, add_plain, add_plain] at this
      exact ⟨this.1, by rw [Nat.add_assoc]; exact this.2.1⟩
    · obtain ⟨i, hi, rfl⟩ := List.mem_map.1 hf
      exact (hF i (by simpa using hi)).2.2
set_option maxRecDepth 100000 in
theorem view_file {H : Type} {enc : TypeId × Value → H} {W : World} {r : Reach} {b0 : Nat} {v : Value} {d : DataW H} {p : List MemPlace} (hv : Value.okWide Tryz.prog W r b0 45 v)
    (h : DataW.Trod enc Tryz.prog W 0 (fun _ => true) true 45 v d p) : ∃ f : Fl, v = .agg #[.string ⟨f.1.toArray⟩, .string ⟨f.2.toArray⟩] ∧ f.1.length ≤ 9223372036854775807 ∧ f.2.length ≤ 9223372036854775807 := by
  obtain ⟨c0, c1, y0, y1, m, rfl, _, _, t0, t1⟩ := open_agg2 Tryz.underlying45 (by kernel_rfl) cel45 hv h
  obtain ⟨s0, e0, _, z0⟩ := DataW.trod_string Tryz.underlying9 t0
  obtain ⟨s1, e1, _, z1⟩ := DataW.trod_string Tryz.underlying9 t1
  simp only [List.cons.injEq, and_true] at e0 e1
  subst e0 e1
  unfold maxLen at z0 z1
  refine ⟨(s0.data.toList, s1.data.toList), by rw [bytes_list s0, bytes_list s1], ?_, ?_⟩
  · show s0.data.toList.length ≤ _
    have := size_list s0
    omega
  · show s1.data.toList.length ≤ _
    have := size_list s1
    omega
end Fl
theorem u8_bounds {n : Int} (h : (Lit.int .u8 n).wf = true) : ∃ x : Nat, n = (x : Int) ∧ x ≤ 255 := by
  simp [Lit.wf, IntKind.min, IntKind.max, IntKind.signed, IntKind.bits] at h
  exact ⟨n.toNat, by omega, by omega⟩
theorem und49 : Tryz.prog.underlying 49 = some (.array 2 5) := by kernel_rfl
theorem und5 : Tryz.prog.underlying 5 = some (.int .u8) := by kernel_rfl
theorem cel49 : Tryz.prog.cellsOf 49 = 2 := by kernel_rfl
theorem cel5 : Tryz.prog.cellsOf 5 = 1 := by kernel_rfl
theorem two_of {cs : Array Value} (h : cs.size = 2) : ∃ a b, cs = #[a, b] := by
  obtain ⟨l⟩ := cs
  match l, h with
  | [a, b], _ => exact ⟨a, b, rfl⟩
set_option maxRecDepth 100000 in
theorem view_u8x2 {H : Type} {enc : TypeId × Value → H} {W : World} {r : Reach} {b0 : Nat} {v : Value} {d : DataW H} {p : List MemPlace} (hv : Value.okWide Tryz.prog W r b0 49 v)
    (h : DataW.Trod enc Tryz.prog W 0 (fun _ => true) true 49 v d p) : ∃ x y : Nat, v = .agg #[.int .u8 x, .int .u8 y] ∧ x ≤ 255 ∧ y ≤ 255 := by
  simp only [Value.okWide, und49] at hv
  obtain ⟨cs, rfl, hsz, _⟩ := hv
  obtain ⟨c0, c1, rfl⟩ := two_of (hsz.trans cel49)
  obtain ⟨fuel, hf⟩ := h
  obtain ⟨xs, m, _, _, _, hl, hall⟩ := DataW.trod_array und49 hf
  have h0 := hall 0 (by omega)
  have h1 := hall 1 (by omega)
  rw [cel5] at h0 h1
  obtain ⟨y0, hy0⟩ : ∃ y, xs[0]? = some y := ⟨_, List.getElem?_eq_getElem (by omega)⟩
  obtain ⟨y1, hy1⟩ : ∃ y, xs[1]? = some y := ⟨_, List.getElem?_eq_getElem (by omega)⟩
  rw [hy0] at h0
  rw [hy1] at h1
  obtain ⟨s0, e0, _, z0⟩ := DataW.trod_int und5 h0
  obtain ⟨s1, e1, _, z1⟩ := DataW.trod_int und5 h1
  have n0 : c0 = .int .u8 s0 := List.head_eq_of_cons_eq (show [c0] = [.int .u8 s0] from e0)
  have n1 : c1 = .int .u8 s1 := List.head_eq_of_cons_eq (show [c1] = [.int .u8 s1] from e1)
  rw [n0, n1]
  obtain ⟨x, rfl, hx⟩ := u8_bounds z0
  obtain ⟨y, rfl, hy⟩ := u8_bounds z1
  exact ⟨x, y, rfl, hx, hy⟩
end Go.Proofs.YtmnbepapgghdaaaGreat
