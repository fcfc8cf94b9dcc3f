/-
  What ItemsSpaces asks: its walk.
-/
import Derived.Test.YtckldeabbkdbjaaDoorK24
import Derived.Test.YtckldeabbkdbjaaDoorK07
import Derived.Lib.SlBytesConst
import Derived.Lib.SmallJoins
import Derived.Deep.CutBlock
import Derived.IntWalk
namespace Go.Proofs.YtckldeabbkdbjaaDoor
open Go.RowKit

theorem app_strI (a b : By) : (⟨a.toArray⟩ : ByteArray) ++ ⟨b.toArray⟩ = ⟨(a ++ b).toArray⟩ := by
  apply ByteArray.ext
  simp [ByteArray.data_append]
theorem app_oneI (l : By) (x : UInt8) : (⟨l.toArray⟩ : ByteArray) ++ ⟨#[x]⟩ = ⟨(l ++ [x]).toArray⟩ := app_strI l [x]
theorem byte_strI (w : World) (g : Nat) (x : UInt8) (hc : w.cell? ⟨g, 0, none⟩ = some (.int .u8 (x.toNat : Int))) (c : Nat) : (convert 51 9 (.slice (some ⟨g, 0, none⟩) 1 c)).run Tryd.prog w = .ok (.string ⟨#[x]⟩) w :=
  run_convert_bytes_back (P := Tryd.prog) w 51 9 5 ⟨g, 0, none⟩ c [x] Tryd.underlying51 Tryd.underlying5 Tryd.underlying9 (fun j hj => by
    have : j = 0 := by simp at hj; omega
    subst this
    rw [add_lit]; exact hc)
theorem pick_factsI (wr : World) (C : Array Value) (x : Nat) (c : UInt8) (z : Int) (hz : (c.toNat : Int) = z) (hC : C[x]? = some (.int .u8 z)) :
    (wr.alloc (.cells C 5 (C.size, C.size + 1))).cell? ⟨wr.heap.size, x, none⟩ = some (.int .u8 z) ∧
    (convert 51 9 (.slice (some ⟨wr.heap.size + 1, 0, none⟩) 1 1)).run Tryd.prog ((wr.alloc (.cells C 5 (C.size, C.size + 1))).alloc (.cells #[.int .u8 z] 5)) = .ok (.string ⟨#[c]⟩) ((wr.alloc (.cells C 5 (C.size, C.size + 1))).alloc (.cells #[.int .u8 z] 5)) := by
  subst hz
  have s1 : (wr.alloc (.cells C 5 (C.size, C.size + 1))).heap.size = wr.heap.size + 1 := by simp
  refine ⟨by rw [World.cell?_alloc_mark]; exact hC, ?_⟩
  rw [← s1]
  exact byte_strI _ _ c (by rw [World.cell?_alloc_new]; rfl) 1
theorem simB_appI {l : By} {x : UInt8} (h : ∀ c ∈ l, simB c = true) (hx : simB x = true) : ∀ c ∈ l ++ [x], simB c = true := fun c hc => by
  rcases List.mem_append.1 hc with hc | hc
  · exact h c hc
  · simp at hc; rw [hc]; exact hx
theorem mod_seven (c : UInt8) {x : Int} (h : (wrap64 (c.toNat : Int)).tmod 7 = x) : x = 0 ∨ x = 1 ∨ x = 2 ∨ x = 3 ∨ x = 4 ∨ x = 5 ∨ x = 6 := by
  have e : wrap64 (c.toNat : Int) = c.toNat := IntWalk.wrap64_in _ (by have := c.toNat_lt; omega)
  rw [e, Int.tmod_eq_emod_of_nonneg (by omega)] at h
  omega
theorem names_ten (m : Nat) (h : m < 10) : ∃ nm, namesL[m]? = some nm ∧ (4 ≤ kindI nm ∧ kindI nm ≤ 13) ∧ nm.all ltr = true ∧ 0 < nm.length ∧ nm.length ≤ 20 := by
  have : ∀ k : Fin 10, ∃ nm, namesL[k.val]? = some nm ∧ (4 ≤ kindI nm ∧ kindI nm ≤ 13) ∧ nm.all ltr = true ∧ 0 < nm.length ∧ nm.length ≤ 20 := by
    intro k
    have hk : k.val < namesL.length := by show k.val < 13; omega
    refine ⟨namesL[k.val], List.getElem?_eq_getElem hk, ?_⟩
    have : ∀ nm ∈ namesL.take 10, (4 ≤ kindI nm ∧ kindI nm ≤ 13) ∧ nm.all ltr = true ∧ 0 < nm.length ∧ nm.length ≤ 20 := by decide +kernel
    refine this _ (List.mem_of_getElem? (i := k.val) ?_)
    rw [List.getElem?_take_of_lt k.isLt]
    exact List.getElem?_eq_getElem hk
  exact this ⟨m, h⟩
theorem cat_s (n a k b : By) (A B N : Array UInt8) (hA : A = a.toArray) (hB : B = b.toArray) (hN : N = (92 :: n).toArray) : ((((⟨N⟩ : ByteArray) ++ ⟨A⟩) ++ ⟨k.toArray⟩) ++ ⟨B⟩) = ⟨(92 :: (n ++ (a ++ (k ++ b)))).toArray⟩ := by
  subst hA hB hN
  rw [app_strI, app_strI, app_strI]
  congr 2
  simp
/-- The items of a known text's tokens. -/
theorem parse_known (L : Landed) {T : By} {G N : List Tok} (hT : T.length ≤ 300) (h : parseI (toks T) [] [] = (G, N)) (S : Option Addr) (sc : Nat) (w : World) (hr : Rd w S (toks T)) (h1 : (toks T).length ≤ sc) (h2 : sc ≤ 9223372036854775807) :
    Calls Tryd.prog 10 #[.slice S (toks T).length sc] w (ItPost w (G, N)) := by
  have := toks_len T
  have he := toks_each T
  have q := L.parse S sc (toks T) w hr (by omega) h1 h2 (Lib.hid fun t ht => by have := he t ht; omega)
  rw [h] at q
  exact q
set_option maxRecDepth 100000 in
set_option maxHeartbeats 16000000 in
theorem itemsSpaces_walk (L : Landed) (a : ByteArray) (κ : Int) (w : World) (h0 : M0 w) (ha : a.size ≤ 9223372036854775807) (k0 : 0 ≤ κ) (k255 : κ ≤ 255) :
    Calls Tryd.prog 7 #[.string a, .int .u8 κ] w fun en w' => en = .returned (.bool true) ∧ Below w.heap.size w w' := by
  have kc := fun (w : World) (C : Array Value) (n c : Nat) => Lib.run_convert_bytes_const (P := Tryd.prog) w 51 5 C n c Tryd.underlying51 Tryd.underlying5
  have F := Lib.hid (fun w hm => fixed_any L w hm)
  have PK := Lib.hid (fun (T : By) (G N : List Tok) (hT : T.length ≤ 300) (h : parseI (toks T) [] [] = (G, N)) => parse_known L hT h)
  clear L
  go_enter Tryd.func7, Tryd.ntmps7
  go_upto_block 0 with fail
  go_cut [5, 6] from 14 to 36 (fun v i wx => ∃ l : By, v = .string ⟨l.toArray⟩ ∧ l.length ≤ 40 ∧ Hid (∀ c ∈ l, simB c = true) ∧ Hid (Below w.heap.size w wx))
  case first =>
    go_wp2_with fail
    go_loopw [5, 6] (fun v i wr => ∃ (k : Nat) (l : By), i = .int .i64 k ∧ v = .string ⟨l.toArray⟩ ∧ k ≤ a.size ∧ k ≤ 40 ∧ l.length ≤ k ∧ Hid (∀ c ∈ l, simB c = true) ∧ Hid (Below w.heap.size w wr)) (fun _ i _ => 40 - (intOf i).toNat)
    case atStart => exact ⟨0, [], rfl, rfl, Nat.zero_le _, Nat.zero_le _, Nat.zero_le _, Lib.hid (fun c hc => by cases hc), Lib.hid (.refl _ _)⟩
    case round =>
      obtain ⟨k, l, rfl, rfl, hk, hk2, hll, HL, HB⟩ := hrel
      by_cases hlt : k < a.size ∧ k < 40
      · obtain ⟨hlt, hl2⟩ := hlt
        have i1 : (k : Int) < (a.size : Int) := by omega
        have i2 : (k : Int) < 40 := by omega
        obtain ⟨x, hx⟩ : ∃ x : Int, (wrap64 (a[k].toNat : Int)).tmod 7 = x := ⟨_, rfl⟩
        have hx7 := mod_seven a[k] hx
        rcases hx7 with rfl | rfl | rfl | rfl | rfl | rfl | rfl
        · obtain ⟨p1, p2⟩ := pick_factsI wr #[.int .u8 97, .int .u8 98, .int .u8 99, .int .u8 120, .int .u8 121, .int .u8 122, .int .u8 32] 0 97 97 rfl rfl
          have p1 : (wr.alloc (.cells #[.int .u8 97, .int .u8 98, .int .u8 99, .int .u8 120, .int .u8 121, .int .u8 122, .int .u8 32] 5 (7, 8))).cell? ⟨wr.heap.size, 0, none⟩ = some (.int .u8 97) := p1
          have p2 : (convert 51 9 (.slice (some ⟨wr.heap.size + 1, 0, none⟩) 1 1)).run Tryd.prog ((wr.alloc (.cells #[.int .u8 97, .int .u8 98, .int .u8 99, .int .u8 120, .int .u8 121, .int .u8 122, .int .u8 32] 5 (7, 8))).alloc (.cells #[.int .u8 97] 5)) = .ok (.string ⟨#[97]⟩) ((wr.alloc (.cells #[.int .u8 97, .int .u8 98, .int .u8 99, .int .u8 120, .int .u8 121, .int .u8 122, .int .u8 32] 5 (7, 8))).alloc (.cells #[.int .u8 97] 5)) := p2
          go_wp2_with fail
          go_roundw
          case rel => exact ⟨k + 1, l ++ [97], by go_num, congrArg Value.string (app_oneI l 97), by omega, by omega, by simp; omega, Lib.hid (simB_appI HL.out (by decide)), Lib.hid (bch HB.out (bch (one_below _ _) (one_below _ _)))⟩
          case measure => simp [intOf]; omega
        · obtain ⟨p1, p2⟩ := pick_factsI wr #[.int .u8 97, .int .u8 98, .int .u8 99, .int .u8 120, .int .u8 121, .int .u8 122, .int .u8 32] 1 98 98 rfl rfl
          have p1 : (wr.alloc (.cells #[.int .u8 97, .int .u8 98, .int .u8 99, .int .u8 120, .int .u8 121, .int .u8 122, .int .u8 32] 5 (7, 8))).cell? ⟨wr.heap.size, 1, none⟩ = some (.int .u8 98) := p1
          have p2 : (convert 51 9 (.slice (some ⟨wr.heap.size + 1, 0, none⟩) 1 1)).run Tryd.prog ((wr.alloc (.cells #[.int .u8 97, .int .u8 98, .int .u8 99, .int .u8 120, .int .u8 121, .int .u8 122, .int .u8 32] 5 (7, 8))).alloc (.cells #[.int .u8 98] 5)) = .ok (.string ⟨#[98]⟩) ((wr.alloc (.cells #[.int .u8 97, .int .u8 98, .int .u8 99, .int .u8 120, .int .u8 121, .int .u8 122, .int .u8 32] 5 (7, 8))).alloc (.cells #[.int .u8 98] 5)) := p2
          go_wp2_with fail
          go_roundw
          case rel => exact ⟨k + 1, l ++ [98], by go_num, congrArg Value.string (app_oneI l 98), by omega, by omega, by simp; omega, Lib.hid (simB_appI HL.out (by decide)), Lib.hid (bch HB.out (bch (one_below _ _) (one_below _ _)))⟩
          case measure => simp [intOf]; omega
        · obtain ⟨p1, p2⟩ := pick_factsI wr #[.int .u8 97, .int .u8 98, .int .u8 99, .int .u8 120, .int .u8 121, .int .u8 122, .int .u8 32] 2 99 99 rfl rfl
          have p1 : (wr.alloc (.cells #[.int .u8 97, .int .u8 98, .int .u8 99, .int .u8 120, .int .u8 121, .int .u8 122, .int .u8 32] 5 (7, 8))).cell? ⟨wr.heap.size, 2, none⟩ = some (.int .u8 99) := p1
          have p2 : (convert 51 9 (.slice (some ⟨wr.heap.size + 1, 0, none⟩) 1 1)).run Tryd.prog ((wr.alloc (.cells #[.int .u8 97, .int .u8 98, .int .u8 99, .int .u8 120, .int .u8 121, .int .u8 122, .int .u8 32] 5 (7, 8))).alloc (.cells #[.int .u8 99] 5)) = .ok (.string ⟨#[99]⟩) ((wr.alloc (.cells #[.int .u8 97, .int .u8 98, .int .u8 99, .int .u8 120, .int .u8 121, .int .u8 122, .int .u8 32] 5 (7, 8))).alloc (.cells #[.int .u8 99] 5)) := p2
          go_wp2_with fail
          go_roundw
          case rel => exact ⟨k + 1, l ++ [99], by go_num, congrArg Value.string (app_oneI l 99), by omega, by omega, by simp; omega, Lib.hid (simB_appI HL.out (by decide)), Lib.hid (bch HB.out (bch (one_below _ _) (one_below _ _)))⟩
          case measure => simp [intOf]; omega
        · obtain ⟨p1, p2⟩ := pick_factsI wr #[.int .u8 97, .int .u8 98, .int .u8 99, .int .u8 120, .int .u8 121, .int .u8 122, .int .u8 32] 3 120 120 rfl rfl
          have p1 : (wr.alloc (.cells #[.int .u8 97, .int .u8 98, .int .u8 99, .int .u8 120, .int .u8 121, .int .u8 122, .int .u8 32] 5 (7, 8))).cell? ⟨wr.heap.size, 3, none⟩ = some (.int .u8 120) := p1
          have p2 : (convert 51 9 (.slice (some ⟨wr.heap.size + 1, 0, none⟩) 1 1)).run Tryd.prog ((wr.alloc (.cells #[.int .u8 97, .int .u8 98, .int .u8 99, .int .u8 120, .int .u8 121, .int .u8 122, .int .u8 32] 5 (7, 8))).alloc (.cells #[.int .u8 120] 5)) = .ok (.string ⟨#[120]⟩) ((wr.alloc (.cells #[.int .u8 97, .int .u8 98, .int .u8 99, .int .u8 120, .int .u8 121, .int .u8 122, .int .u8 32] 5 (7, 8))).alloc (.cells #[.int .u8 120] 5)) := p2
          go_wp2_with fail
          go_roundw
          case rel => exact ⟨k + 1, l ++ [120], by go_num, congrArg Value.string (app_oneI l 120), by omega, by omega, by simp; omega, Lib.hid (simB_appI HL.out (by decide)), Lib.hid (bch HB.out (bch (one_below _ _) (one_below _ _)))⟩
          case measure => simp [intOf]; omega
        · obtain ⟨p1, p2⟩ := pick_factsI wr #[.int .u8 97, .int .u8 98, .int .u8 99, .int .u8 120, .int .u8 121, .int .u8 122, .int .u8 32] 4 121 121 rfl rfl
          have p1 : (wr.alloc (.cells #[.int .u8 97, .int .u8 98, .int .u8 99, .int .u8 120, .int .u8 121, .int .u8 122, .int .u8 32] 5 (7, 8))).cell? ⟨wr.heap.size, 4, none⟩ = some (.int .u8 121) := p1
          have p2 : (convert 51 9 (.slice (some ⟨wr.heap.size + 1, 0, none⟩) 1 1)).run Tryd.prog ((wr.alloc (.cells #[.int .u8 97, .int .u8 98, .int .u8 99, .int .u8 120, .int .u8 121, .int .u8 122, .int .u8 32] 5 (7, 8))).alloc (.cells #[.int .u8 121] 5)) = .ok (.string ⟨#[121]⟩) ((wr.alloc (.cells #[.int .u8 97, .int .u8 98, .int .u8 99, .int .u8 120, .int .u8 121, .int .u8 122, .int .u8 32] 5 (7, 8))).alloc (.cells #[.int .u8 121] 5)) := p2
          go_wp2_with fail
          go_roundw
          case rel => exact ⟨k + 1, l ++ [121], by go_num, congrArg Value.string (app_oneI l 121), by omega, by omega, by simp; omega, Lib.hid (simB_appI HL.out (by decide)), Lib.hid (bch HB.out (bch (one_below _ _) (one_below _ _)))⟩
          case measure => simp [intOf]; omega
        · obtain ⟨p1, p2⟩ := pick_factsI wr #[.int .u8 97, .int .u8 98, .int .u8 99, .int .u8 120, .int .u8 121, .int .u8 122, .int .u8 32] 5 122 122 rfl rfl
          have p1 : (wr.alloc (.cells #[.int .u8 97, .int .u8 98, .int .u8 99, .int .u8 120, .int .u8 121, .int .u8 122, .int .u8 32] 5 (7, 8))).cell? ⟨wr.heap.size, 5, none⟩ = some (.int .u8 122) := p1
          have p2 : (convert 51 9 (.slice (some ⟨wr.heap.size + 1, 0, none⟩) 1 1)).run Tryd.prog ((wr.alloc (.cells #[.int .u8 97, .int .u8 98, .int .u8 99, .int .u8 120, .int .u8 121, .int .u8 122, .int .u8 32] 5 (7, 8))).alloc (.cells #[.int .u8 122] 5)) = .ok (.string ⟨#[122]⟩) ((wr.alloc (.cells #[.int .u8 97, .int .u8 98, .int .u8 99, .int .u8 120, .int .u8 121, .int .u8 122, .int .u8 32] 5 (7, 8))).alloc (.cells #[.int .u8 122] 5)) := p2
          go_wp2_with fail
          go_roundw
          case rel => exact ⟨k + 1, l ++ [122], by go_num, congrArg Value.string (app_oneI l 122), by omega, by omega, by simp; omega, Lib.hid (simB_appI HL.out (by decide)), Lib.hid (bch HB.out (bch (one_below _ _) (one_below _ _)))⟩
          case measure => simp [intOf]; omega
        · obtain ⟨p1, p2⟩ := pick_factsI wr #[.int .u8 97, .int .u8 98, .int .u8 99, .int .u8 120, .int .u8 121, .int .u8 122, .int .u8 32] 6 32 32 rfl rfl
          have p1 : (wr.alloc (.cells #[.int .u8 97, .int .u8 98, .int .u8 99, .int .u8 120, .int .u8 121, .int .u8 122, .int .u8 32] 5 (7, 8))).cell? ⟨wr.heap.size, 6, none⟩ = some (.int .u8 32) := p1
          have p2 : (convert 51 9 (.slice (some ⟨wr.heap.size + 1, 0, none⟩) 1 1)).run Tryd.prog ((wr.alloc (.cells #[.int .u8 97, .int .u8 98, .int .u8 99, .int .u8 120, .int .u8 121, .int .u8 122, .int .u8 32] 5 (7, 8))).alloc (.cells #[.int .u8 32] 5)) = .ok (.string ⟨#[32]⟩) ((wr.alloc (.cells #[.int .u8 97, .int .u8 98, .int .u8 99, .int .u8 120, .int .u8 121, .int .u8 122, .int .u8 32] 5 (7, 8))).alloc (.cells #[.int .u8 32] 5)) := p2
          go_wp2_with fail
          go_roundw
          case rel => exact ⟨k + 1, l ++ [32], by go_num, congrArg Value.string (app_oneI l 32), by omega, by omega, by simp; omega, Lib.hid (simB_appI HL.out (by decide)), Lib.hid (bch HB.out (bch (one_below _ _) (one_below _ _)))⟩
          case measure => simp [intOf]; omega
      · have hend : a.size ≤ k ∨ k < a.size := by omega
        rcases hend with h | h
        · have i1 : (a.size : Int) ≤ (k : Int) := by omega
          go_wp2_with fail
          go_meet
          case rel => exact ⟨l, rfl, by omega, HL, HB⟩
        · have i1 : (k : Int) < (a.size : Int) := by omega
          have i2 : (40 : Int) ≤ (k : Int) := by omega
          go_wp2_with fail
          go_meet
          case rel => exact ⟨l, rfl, by omega, HL, HB⟩
  case rest =>
    obtain ⟨l, rfl, hl40, HL, HB⟩ := hcut
    clear kc
    obtain ⟨m, hm⟩ : ∃ m : Nat, κ % 10 = (m : Int) := ⟨(κ % 10).toNat, by omega⟩
    have hm10 : m < 10 := by omega
    obtain ⟨nm, hnm, hkn, hlt, h0, h20⟩ := names_ten m hm10
    obtain ⟨P, hP1, e1, e2, e3⟩ := items_spaces l HL.out hkn hlt h0
    obtain ⟨G, N⟩ := P
    simp only at hP1
    have q1 := PK.out _ _ _ (by simp; omega) e1
    have q2 := PK.out _ _ _ (by simp; omega) e2
    have q3 := PK.out _ _ _ (by simp; omega) e3
    have L1 := Lib.hid (fun w => lex_listI (92 :: (nm ++ (123 :: (l ++ [125])))) w (by simp; omega))
    have L2 := Lib.hid (fun w => lex_listI (92 :: (nm ++ (32 :: 32 :: 123 :: 10 :: 32 :: (l ++ [10, 125])))) w (by simp; omega))
    have L3 := Lib.hid (fun w => lex_listI (92 :: (nm ++ (32 :: 123 :: 123 :: (l ++ [125, 125])))) w (by simp; omega))
    have C0 := Lib.hid (show (⟨#[92]⟩ : ByteArray) ++ ⟨nm.toArray⟩ = ⟨(92 :: nm).toArray⟩ from app_strI [92] nm)
    have C1 := Lib.hid (cat_s nm [123] l [125] #[123] #[125] _ rfl rfl rfl)
    have C2 := Lib.hid (cat_s nm [32, 32, 123, 10, 32] l [10, 125] #[32, 32, 123, 10, 32] #[10, 125] _ rfl rfl rfl)
    have C3 := Lib.hid (cat_s nm [32, 123, 123] l [125, 125] #[32, 123, 123] #[125, 125] _ rfl rfl rfl)
    have HNM := Lib.hid (fun w => names_cell w hnm)
    have gl : G.length ≤ 1 := by omega
    have nl : N.length ≤ 1 := by omega
    have hsum : ((G.length : Int) + (N.length : Int) == 1) = true := by simp; omega
    have Q1 := Lib.hid q1
    have Q2 := Lib.hid q2
    have Q3 := Lib.hid q3
    obtain ⟨x1, hx1⟩ : ∃ x, toks (92 :: (nm ++ (123 :: (l ++ [125])))) = x := ⟨_, rfl⟩
    obtain ⟨x2, hx2⟩ : ∃ x, toks (92 :: (nm ++ (32 :: 32 :: 123 :: 10 :: 32 :: (l ++ [10, 125])))) = x := ⟨_, rfl⟩
    obtain ⟨x3, hx3⟩ : ∃ x, toks (92 :: (nm ++ (32 :: 123 :: 123 :: (l ++ [125, 125])))) = x := ⟨_, rfl⟩
    rw [hx1] at Q1 L1
    rw [hx2] at Q2 L2
    rw [hx3] at Q3 L3
    clear q1 q2 q3 e1 e2 e3 hx1 hx2 hx3 PK HL hkn hlt h0 hnm hP1
    have j1 : (m : Int) < 13 := by omega
    have j0 : (0 : Int) ≤ (m : Int) := by omega
    have t1 : κ.tmod 10 = (m : Int) := by rw [Int.tmod_eq_emod_of_nonneg (by omega)]; exact hm
    have t2 : (wrap64 κ).tmod 10 = (m : Int) := by rw [IntWalk.wrap64_in _ (by omega)]; exact t1
    go_wp2_with fail
    refine (rnames_any wc).mono ?_
    rintro en w1 ⟨rfl, rfl⟩
    have cn := HNM.out wc
    have HB := Lib.hid (bch HB.out (one_below wc (.cells namesV 9)))
    obtain ⟨W, hW⟩ : ∃ W, wc.alloc (.cells namesV 9) = W := ⟨_, rfl⟩
    rw [hW] at cn HB
    rw [hW]
    clear hW HNM
    go_wp2_with fail
    rw [C0.out, C1.out]
    refine (L1.out W).mono ?_
    rintro e w2 ⟨At, ct, rfl, hot, hb2⟩
    replace HB := Lib.hid (bch HB.out hb2)
    clear hb2
    obtain ⟨u1, u2, _⟩ := hot.cap
    replace hot := hot.rd
    clear L1 C1 cn t1 t2 hm
    go_wp2_with fail
    refine (Q1.out At ct w2 hot u1 u2).mono ?_
    rintro e w3 ⟨Ai, ci, Bi, di, rfl, hri, hni, _, _, hb3⟩
    replace HB := Lib.hid (bch HB.out hb3)
    clear hb3
    clear Q1 hot u1 u2 hni
    go_wp2_with fail
    rw [C2.out]
    refine (L2.out w3).mono ?_
    rintro e w4 ⟨Bt, bt, rfl, hot, hb4⟩
    replace hri := hri.below hb4
    replace HB := Lib.hid (bch HB.out hb4)
    clear hb4
    obtain ⟨u1, u2, _⟩ := hot.cap
    replace hot := hot.rd
    clear L2 C2
    go_wp2_with fail
    refine (Q2.out Bt bt w4 hot u1 u2).mono ?_
    rintro e w5 ⟨Aj, cj, Bj, dj, rfl, hrj, hnj, _, _, hb5⟩
    replace hri := hri.below hb5
    replace HB := Lib.hid (bch HB.out hb5)
    clear hb5
    clear Q2 hot u1 u2 hnj
    go_wp2_with fail
    rw [C3.out]
    refine (L3.out w5).mono ?_
    rintro e w6 ⟨Ct, et, rfl, hot, hb6⟩
    replace hri := hri.below hb6
    replace hrj := hrj.below hb6
    replace HB := Lib.hid (bch HB.out hb6)
    clear hb6
    obtain ⟨u1, u2, _⟩ := hot.cap
    replace hot := hot.rd
    clear L3 C3
    go_wp2_with fail
    refine (Q3.out Ct et w6 hot u1 u2).mono ?_
    rintro e w7 ⟨Ak, ck, Bk, dk, rfl, hrk, hnk, _, _, hb7⟩
    replace hri := hri.below hb7
    replace hrj := hrj.below hb7
    replace HB := Lib.hid (bch HB.out hb7)
    clear hb7
    clear Q3 hot u1 u2 hnk
    go_wp2_with fail
    refine (irefs_any Ai ci G w7 hri (by omega)).mono ?_
    rintro e w8 ⟨Ra, ra, rfl, hra, hb8⟩
    replace hri := hri.below hb8
    replace hrj := hrj.below hb8
    replace hrk := hrk.below hb8
    replace HB := Lib.hid (bch HB.out hb8)
    clear hb8
    replace hra := hra.rd
    go_wp2_with fail
    refine (irefs_any Aj cj G w8 hrj (by omega)).mono ?_
    rintro e w9 ⟨Rb, rb, rfl, hrb, hb9⟩
    replace hri := hri.below hb9
    replace hrk := hrk.below hb9
    replace hra := hra.below hb9
    replace HB := Lib.hid (bch HB.out hb9)
    clear hb9 hrj
    replace hrb := hrb.rd
    go_wp2_with fail
    refine (items_same Ra Rb ra rb G w9 hra hrb (by omega)).mono ?_
    rintro e w10 ⟨rfl, hb10⟩
    replace hri := hri.below hb10
    replace hrk := hrk.below hb10
    replace HB := Lib.hid (bch HB.out hb10)
    clear hb10 hra hrb
    go_wp2_with fail
    refine (irefs_any Ai ci G w10 hri (by omega)).mono ?_
    rintro e w11 ⟨Rc, rc, rfl, hrc, hb11⟩
    replace hrk := hrk.below hb11
    replace HB := Lib.hid (bch HB.out hb11)
    clear hb11 hri
    replace hrc := hrc.rd
    go_wp2_with fail
    refine (irefs_any Ak ck G w11 hrk (by omega)).mono ?_
    rintro e w12 ⟨Re, re, rfl, hre, hb12⟩
    replace hrc := hrc.below hb12
    replace HB := Lib.hid (bch HB.out hb12)
    clear hb12 hrk
    replace hre := hre.rd
    go_wp2_with fail
    refine (items_same Rc Re rc re G w12 hrc hre (by omega)).mono ?_
    rintro e w13 ⟨rfl, hb13⟩
    replace HB := Lib.hid (bch HB.out hb13)
    clear hb13 hrc hre
    go_wp2_with fail
    refine (F.out w13 (h0.below HB.out)).mono ?_
    rintro e w14 ⟨rfl, hb14⟩
    replace HB := Lib.hid (bch HB.out hb14)
    clear hb14
    clear F
    go_wp2
    go_ret
    exact ⟨rfl, HB.out⟩
end Go.Proofs.YtckldeabbkdbjaaDoor
