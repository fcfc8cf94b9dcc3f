/-
  Contract of the document's answer for layer 1 (its roman) over the translation: it returns the plain function of its arguments; old memory stays as it was.
-/
import Derived.Test.YtglhcnhenhfkiaaDoorF2
import Derived.Deep.RegionHeld3
import Derived.OwnWalk
import Derived.IntWalk
namespace Go.Proofs.YtglhcnhenhfkiaaDoor
open Go.RowKit Go.Sort

theorem info9 : (Tryd.prog.info? 9).map (fun i => (i.zero, i.size, i.bytes)) = some (some (.string ⟨#[]⟩), 1, 16) := by kernel_rfl
/-- One sign of some. -/
def sgL (sg : List UInt8) (k : Nat) : List UInt8 := [sg.getD k 0]
def sgV (sg : List UInt8) (k : Nat) : List Value := (List.range k).map fun j => .string ⟨(sgL sg j).toArray⟩
theorem sgV_succ (sg : List UInt8) (k : Nat) : sgV sg (k + 1) = sgV sg k ++ [.string ⟨(sgL sg k).toArray⟩] := by
  unfold sgV; rw [List.range_succ, List.map_append]; rfl
theorem sg_cut (sg : List UInt8) (k : Nat) (h : k < sg.length) : Value.string ((⟨sg.toArray⟩ : ByteArray).extract k (k + 1)) = .string ⟨(sgL sg k).toArray⟩ := by
  congr 1
  apply ByteArray.ext
  simp only [ByteArray.data_extract, List.extract_toArray, List.extract_eq_take_drop, sgL]
  rw [List.drop_eq_getElem_cons h, show k + 1 - k = 1 by omega, ← List.getElem_eq_getD (h := h)]
  rfl

theorem ten_len (k : Nat) (o f t : List UInt8) (ho : o.length ≤ 10) (hf : f.length ≤ 10) (ht : t.length ≤ 10) : (tenL k o f t).length ≤ 40 := by
  unfold tenL
  split <;> (try simp only [List.length_append, List.length_nil]) <;> omega
theorem tenA (sg : List UInt8) (d : Int) (w : World) (h0 : 0 ≤ d) (h9 : d ≤ 999999) :
    Calls Tryd.prog 28 #[.int .i64 d, .string ⟨(sgL sg 6).toArray⟩, .string ⟨#[]⟩, .string ⟨#[]⟩] w fun e w' => ∃ l : List UInt8, l.length ≤ 40 ∧ Hid (tenL (d.toNat % 10) (sgL sg 6) [] [] = l) ∧ e = .returned (.string ⟨l.toArray⟩) ∧ Below w.heap.size w w' := by
  obtain ⟨k, rfl⟩ := Int.eq_ofNat_of_zero_le h0
  exact (ten_any k (sgL sg 6) [] [] w (by omega) (by simp [sgL]) (by simp [sgL]) (by simp [sgL])).mono fun e w' h => ⟨_, ten_len _ _ _ _ (by simp [sgL]) (by simp [sgL]) (by simp [sgL]), Lib.hid rfl, h.1, h.2⟩
theorem tenB (sg : List UInt8) (d : Int) (w : World) (h0 : 0 ≤ d) (h9 : d ≤ 999999) :
    Calls Tryd.prog 28 #[.int .i64 d, .string ⟨(sgL sg 4).toArray⟩, .string ⟨(sgL sg 5).toArray⟩, .string ⟨(sgL sg 6).toArray⟩] w fun e w' => ∃ l : List UInt8, l.length ≤ 40 ∧ Hid (tenL (d.toNat % 10) (sgL sg 4) (sgL sg 5) (sgL sg 6) = l) ∧ e = .returned (.string ⟨l.toArray⟩) ∧ Below w.heap.size w w' := by
  obtain ⟨k, rfl⟩ := Int.eq_ofNat_of_zero_le h0
  exact (ten_any k (sgL sg 4) (sgL sg 5) (sgL sg 6) w (by omega) (by simp [sgL]) (by simp [sgL]) (by simp [sgL])).mono fun e w' h => ⟨_, ten_len _ _ _ _ (by simp [sgL]) (by simp [sgL]) (by simp [sgL]), Lib.hid rfl, h.1, h.2⟩
theorem tenC (sg : List UInt8) (d : Int) (w : World) (h0 : 0 ≤ d) (h9 : d ≤ 999999) :
    Calls Tryd.prog 28 #[.int .i64 d, .string ⟨(sgL sg 2).toArray⟩, .string ⟨(sgL sg 3).toArray⟩, .string ⟨(sgL sg 4).toArray⟩] w fun e w' => ∃ l : List UInt8, l.length ≤ 40 ∧ Hid (tenL (d.toNat % 10) (sgL sg 2) (sgL sg 3) (sgL sg 4) = l) ∧ e = .returned (.string ⟨l.toArray⟩) ∧ Below w.heap.size w w' := by
  obtain ⟨k, rfl⟩ := Int.eq_ofNat_of_zero_le h0
  exact (ten_any k (sgL sg 2) (sgL sg 3) (sgL sg 4) w (by omega) (by simp [sgL]) (by simp [sgL]) (by simp [sgL])).mono fun e w' h => ⟨_, ten_len _ _ _ _ (by simp [sgL]) (by simp [sgL]) (by simp [sgL]), Lib.hid rfl, h.1, h.2⟩
theorem tenD (sg : List UInt8) (d : Int) (w : World) (h0 : 0 ≤ d) (h9 : d ≤ 999999) :
    Calls Tryd.prog 28 #[.int .i64 d, .string ⟨(sgL sg 0).toArray⟩, .string ⟨(sgL sg 1).toArray⟩, .string ⟨(sgL sg 2).toArray⟩] w fun e w' => ∃ l : List UInt8, l.length ≤ 40 ∧ Hid (tenL (d.toNat % 10) (sgL sg 0) (sgL sg 1) (sgL sg 2) = l) ∧ e = .returned (.string ⟨l.toArray⟩) ∧ Below w.heap.size w w' := by
  obtain ⟨k, rfl⟩ := Int.eq_ofNat_of_zero_le h0
  exact (ten_any k (sgL sg 0) (sgL sg 1) (sgL sg 2) w (by omega) (by simp [sgL]) (by simp [sgL]) (by simp [sgL])).mono fun e w' h => ⟨_, ten_len _ _ _ _ (by simp [sgL]) (by simp [sgL]) (by simp [sgL]), Lib.hid rfl, h.1, h.2⟩
theorem below_drw (w : World) : Below w.heap.size w w.drew := ⟨rfl, rfl, rfl, Nat.le_refl _, fun _ _ => rfl⟩
theorem own_start (w : World) : (w.alloc (Obj.cells #[] 9)).ownsRow w.heap.size 9 1 (.slice (some ⟨w.heap.size, 0, none⟩) 0 0) 0 [] := by
  refine ⟨rfl, .inr ⟨w.heap.size, 0, #[], rfl, Nat.le_refl _, ?_, Nat.le_refl _, Nat.zero_le _, rfl, rfl⟩⟩
  show (w.heap.push (Obj.cells #[] 9))[w.heap.size]? = _
  simp

theorem own_block {w : World} {base : Nat} {e : TypeId} {size : Nat} {v : Value} {n : Nat} {xs : List Value} (h : w.ownsRow base e size v n xs) : ∀ k, v.ownBlock = some k → base ≤ k := by
  intro k hk
  obtain ⟨_, h | ⟨g, cap, cur, rfl, hb, _⟩⟩ := h
  · obtain ⟨rfl, _⟩ := h; simp [Value.ownBlock] at hk
  · simp [Value.ownBlock] at hk; omega
theorem own_seven {w : World} {base : Nat} {v : Value} {sg : List UInt8} (h : w.ownsRow base 9 1 v 7 (sgV sg 7)) : ∃ g cap, v = .slice (some ⟨g, 0, none⟩) 7 cap ∧ ∀ j, j < 7 → w.cell? ⟨g, j, none⟩ = some (.string ⟨(sgL sg j).toArray⟩) := by
  obtain ⟨_, h | ⟨g, cap, cur, rfl, hb, hh, hn, _, hs, ht⟩⟩ := h
  · omega
  · refine ⟨g, cap, rfl, fun j hj => ?_⟩
    have h1 : (cur.toList.take 7)[j]? = (sgV sg 7)[j]? := by rw [← ht]
    rw [List.getElem?_take, if_pos hj] at h1
    simp only [World.cell?, hh]
    rw [← Array.getElem?_toList, h1]
    simp [sgV, List.getElem?_range hj]

set_option maxRecDepth 100000 in
set_option maxHeartbeats 1000000 in
theorem rroman_any (n : Nat) (sg : List UInt8) (w : World) (hn : n ≤ 3999) (hsg : sg.length ≤ 7) (hsg' : 7 ≤ sg.length) :
    Calls Tryd.prog 21 #[.int .i64 n, .string ⟨sg.toArray⟩] w fun e w' => e = .returned (.string ⟨(tenL (n / 1000 % 10) (sgL sg 6) [] [] ++ tenL (n / 100 % 10) (sgL sg 4) (sgL sg 5) (sgL sg 6) ++ tenL (n / 10 % 10) (sgL sg 2) (sgL sg 3) (sgL sg 4) ++ tenL (n % 10) (sgL sg 0) (sgL sg 1) (sgL sg 2)).toArray⟩) ∧ Below w.heap.size w w' := by
  obtain ⟨i0, hi, hz0, hz1, hz2⟩ := info_parts info9
  go_enter Tryd.func21, Tryd.ntmps21
  go_wp2_with fail
  have ba := one_below w (Obj.cells #[] 9)
  have ho0 := own_start w
  generalize w.alloc (Obj.cells #[] 9) = wa at *
  go_loopw [5, 6] (fun g i wr => ∃ k : Nat, k ≤ 7 ∧ i = .int .i64 k ∧ wr.ownsRow w.heap.size 9 1 g k (sgV sg k) ∧ Below w.heap.size w wr) (fun _ i _ => 7 - (intOf i).toNat)
  case atStart => exact ⟨0, by omega, rfl, ho0, ba⟩
  case round =>
    obtain ⟨k, hk, rfl, hown, hb⟩ := hrel
    by_cases hlt : k < 7
    · have HC := Lib.hid (sg_cut sg k (by omega))
      have HS := Lib.hid (sgV_succ sg k)
      have hsz := hb.size
      generalize sgV sg k = xs at *
      generalize sgL sg k = s1 at *
      have hl1 : (k : Int) < (sg.length : Int) := by omega
      go_wp2_with (at_builtin; refine wpList_append_own _ rfl _ _ 22 rfl w.heap.size 9 i0 (.string ⟨#[]⟩) 1 16 Tryd.underlying22 hi hz0 hz1 hz2 rfl (by decide) _ _ _ rfl (hown.alloc _) ⟨wr.heap.size, 0, none⟩ 1 1 [.string ((⟨sg.toArray⟩ : ByteArray).extract k (k + 1))] rfl rfl ?c1 ?c2 ?c3 ?c4 ?c5 ?_)
      case c1 => exact cell_one_new _ _ _
      case c2 => intro u hu; simp at hu; subst hu; rfl
      case c3 => unfold maxLen; omega
      case c4 => omega
      case c5 => simp; omega
      intro v' w2 hown' hgrow' _
      have hb2 := (hb.trans ((one_below wr _).mono hb.size)).grown hgrow' (by simp; omega) (own_block hown)
      rw [HC.out, ← HS.out] at hown'
      clear hgrow' hown HC HS hb
      go_wp2_with fail
      go_roundw
      case rel => exact ⟨k + 1, by omega, by go_num, hown', hb2⟩
      case measure => simp [intOf]; omega
    · obtain rfl : k = 7 := by omega
      obtain ⟨g, cap, rfl, hcell⟩ := own_seven hown
      clear hown
      have hl1 : (7 : Int) ≤ (sg.length : Int) := by omega
      have hl2 : (sg.length : Int) ≤ 7 := by omega
      go_wp2_with fail
      have c0 := hcell 0 (by omega)
      have c1 := hcell 1 (by omega)
      have c2 := hcell 2 (by omega)
      have c3 := hcell 3 (by omega)
      have c4 := hcell 4 (by omega)
      have c5 := hcell 5 (by omega)
      have c6 := hcell 6 (by omega)
      clear hcell
      have e1 : IntKind.i64.wrap ((n : Int) / 1000) = (n : Int) / 1000 := IntWalk.i64_in _ (by omega)
      have e2 : IntKind.i64.wrap ((n : Int) / 100) = (n : Int) / 100 := IntWalk.i64_in _ (by omega)
      have e3 : IntKind.i64.wrap ((n : Int) / 10) = (n : Int) / 10 := IntWalk.i64_in _ (by omega)
      go_region_held3 (fun w' => w'.cell? ⟨g, 0, none⟩ = some (.string ⟨(sgL sg 0).toArray⟩) ∧ w'.cell? ⟨g, 1, none⟩ = some (.string ⟨(sgL sg 1).toArray⟩) ∧ w'.cell? ⟨g, 2, none⟩ = some (.string ⟨(sgL sg 2).toArray⟩) ∧ w'.cell? ⟨g, 3, none⟩ = some (.string ⟨(sgL sg 3).toArray⟩) ∧ w'.cell? ⟨g, 4, none⟩ = some (.string ⟨(sgL sg 4).toArray⟩) ∧ w'.cell? ⟨g, 5, none⟩ = some (.string ⟨(sgL sg 5).toArray⟩) ∧ w'.cell? ⟨g, 6, none⟩ = some (.string ⟨(sgL sg 6).toArray⟩))
        (first
          | go_keep
          | (go_split_ands
             refine ⟨?_, ?_, ?_, ?_, ?_, ?_, ?_⟩ <;> first | exact cell_later hba (by assumption) | exact cell_later hbb (by assumption) | exact cell_later hbc (by assumption) | exact cell_later hbd (by assumption)))
        (first
          | (go_at_call 28; (with_reducible refine (tenA sg _ _ (by omega) (by omega)).mono ?_); rintro e wA ⟨la, hla, HA, rfl, hba⟩)
          | (go_at_call 28; (with_reducible refine (tenB sg _ _ (by omega) (by omega)).mono ?_); rintro e wB ⟨lb, hlb, HB, rfl, hbb⟩; have p1 : ¬ 9223372036854775807 < la.length + lb.length := by omega)
          | (go_at_call 28; (with_reducible refine (tenC sg _ _ (by omega) (by omega)).mono ?_); rintro e wC ⟨lc, hlc, HC, rfl, hbc⟩; have p2 : ¬ 9223372036854775807 < la.length + lb.length + lc.length := by omega)
          | (go_at_call 28; (with_reducible refine (tenD sg _ _ (by omega) (by omega)).mono ?_); rintro e wD ⟨ld, hld, HD, rfl, hbd⟩; have p3 : ¬ 9223372036854775807 < la.length + lb.length + lc.length + ld.length := by omega))
      have ea := HA.out
      have eb := HB.out
      have ec := HC.out
      have ed := HD.out
      rw [show ((n : Int) / 1000).toNat = n / 1000 by omega] at ea
      rw [show ((n : Int) / 100).toNat = n / 100 by omega] at eb
      rw [show ((n : Int) / 10).toNat = n / 10 by omega] at ec
      rw [Int.toNat_natCast] at ed
      have HE := Lib.hid (show tenL (n / 1000 % 10) (sgL sg 6) [] [] ++ tenL (n / 100 % 10) (sgL sg 4) (sgL sg 5) (sgL sg 6) ++ tenL (n / 10 % 10) (sgL sg 2) (sgL sg 3) (sgL sg 4) ++ tenL (n % 10) (sgL sg 0) (sgL sg 1) (sgL sg 2) = la ++ lb ++ lc ++ ld by rw [ea, eb, ec, ed])
      have B1 : Below w.heap.size w wA := hb.trans (((below_drw wr).trans hba).mono hb.size)
      have B2 := B1.trans (hbb.mono B1.size)
      have B3 := B2.trans (hbc.mono B2.size)
      have B4 := B3.trans (hbd.mono B3.size)
      clear ea eb ec ed HA HB HC HD hba hbb hbc hbd e1 e2 e3 c0 c1 c2 c3 c4 c5 c6
      go_wp2_with fail
      go_ret
      exact ⟨by rw [HE.out]; rfl, B4⟩
end Go.Proofs.YtglhcnhenhfkiaaDoor
