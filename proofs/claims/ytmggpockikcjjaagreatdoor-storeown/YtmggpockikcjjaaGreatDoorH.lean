/-
  Contract of the document's answer's Files: a map's bytes; old memory stays.
-/
import Derived.Test.YtmggpockikcjjaaGreatDoorF
namespace Go.Proofs.YtmggpockikcjjaaGreatDoor
open Go.RowKit

theorem wrput_named (s : List UInt8) (w : World) (hs : s.length ≤ 999999) :
    Calls Tryz.prog 46 #[.string ⟨s.toArray⟩] w fun e w' => ∃ l : List UInt8, l.length ≤ 2000000 ∧ Hid (wputL s = l) ∧ e = .returned (.string ⟨l.toArray⟩) ∧ Below w.heap.size w w' :=
  (wrput_any s w hs).mono fun _ _ ⟨he, hb⟩ => ⟨wputL s, wput_mild hs, Lib.hid rfl, he, hb⟩
theorem str_app3 (a b c r : List UInt8) (h : a ++ b ++ c = r) : Value.string (({ data := a.toArray } : ByteArray) ++ (({ data := b.toArray } : ByteArray) ++ { data := c.toArray })) = .string ⟨r.toArray⟩ := by
  congr 1
  apply ByteArray.ext
  rw [← h]; simp

set_option maxRecDepth 100000 in
set_option maxHeartbeats 4000000 in
theorem rfiles_any (A : Option Addr) (c : Nat) (fs : List Fl) (w : World) (hr : Rd w A fs) (hm : Hid (Mild fs)) (hl : fs.length ≤ 90) :
    Calls Tryz.prog 30 #[.slice A fs.length c] w fun e w' => e = .returned (.string ⟨(filesL fs).toArray⟩) ∧ Below w.heap.size w w' := by
  go_enter Tryz.func30, Tryz.ntmps30
  go_wp2_with fail
  go_loopw [3, 4] (fun vs i wr => ∃ (k : Nat) (l : List UInt8), k ≤ fs.length ∧ i = .int .i64 k ∧ vs = .string ⟨l.toArray⟩ ∧ Hid (filesL (fs.take k) = l) ∧ l.length ≤ 360000000 ∧ Below w.heap.size w wr) (fun _ i _ => fs.length - (intOf i).toNat)
  case atStart => exact ⟨0, [], Nat.zero_le _, rfl, rfl, Lib.hid rfl, by simp, Below.refl _ _⟩
  case round =>
    obtain ⟨k, l, hk, rfl, rfl, HL, hll, hb⟩ := hrel
    by_cases hlt : k < fs.length
    · obtain ⟨b, o, rfl, hcell⟩ := (hr.below hb) (by omega)
      obtain ⟨f, hf⟩ : ∃ f, fs[k]? = some f := ⟨_, List.getElem?_eq_getElem hlt⟩
      obtain ⟨c1, c2⟩ := hcell k f hf
      obtain ⟨l1, l2⟩ := hm.out f (List.mem_of_getElem? hf)
      have HN := Lib.hid (show filesL (fs.take (k + 1)) = l ++ wputL f.1 ++ wputL f.2 by rw [filesL_step hf, HL.out])
      have HLL := Lib.hid (show (filesL (fs.take (k + 1))).length ≤ 360000000 by have := files_len (k + 1) fs hm.out; omega)
      have i1 : (k : Int) < (fs.length : Int) := by omega
      clear hf hcell HL
      go_wp2_with fail
      go_region_held3 (fun w' => w'.cell? ⟨b, o + k * 2, none⟩ = some (.string ⟨f.1.toArray⟩) ∧ w'.cell? ⟨b, o + k * 2 + 1, none⟩ = some (.string ⟨f.2.toArray⟩))
        (first
          | go_keep
          | (go_split_ands
             refine ⟨?_, ?_⟩ <;> first | exact cell_below hba (by assumption) | exact cell_below hbb (by assumption)))
        (first
          | (go_at_call 46; (with_reducible refine (wrput_named f.1 _ l1).mono ?_); rintro e wA ⟨la, hla, HA, rfl, hba⟩)
          | (go_at_call 46; (with_reducible refine (wrput_named f.2 _ l2).mono ?_); rintro e wB ⟨lb, hlb, HB, rfl, hbb⟩; have p1 : ¬ 9223372036854775807 < la.length + lb.length := (by omega); have p2 : ¬ 9223372036854775807 < l.length + (la.length + lb.length) := (by omega)))
      have b1 : Below w.heap.size w wA := bch hb (bch (below_drew wr) hba)
      have b2 := bch b1 hbb
      obtain ⟨r, hr0⟩ : ∃ r, l ++ la ++ lb = r := ⟨_, rfl⟩
      have HR := Lib.hid (str_app3 l la lb r hr0)
      have HN2 := Lib.hid (show filesL (fs.take (k + 1)) = r by rw [HN.out, HA.out, HB.out, hr0])
      have hrl : r.length ≤ 360000000 := by rw [← HN2.out]; exact HLL.out
      clear hr0 HA HB hba hbb c1 c2 HN HLL
      go_wp2_with fail
      go_roundw
      case rel => exact ⟨k + 1, r, by omega, by go_num, HR.out, HN2, hrl, b2⟩
      case measure => simp [intOf]; omega
    · have hfin := HL.out
      rw [List.take_of_length_le (by omega)] at hfin
      have HF := Lib.hid hfin
      clear hfin HL
      go_wp2
      go_ret
      exact ⟨ret_eq (str_eq HF.out.symm), hb⟩
end Go.Proofs.YtmggpockikcjjaaGreatDoor
