/-
  Contracts of strings.Compare, of the closure that files.find hands to sort.Find, of sort.Find with it, of files.find and files.Get: over a sorted list the place of a name, and whether it is there; old memory stays.
-/
import Derived.Test.YtdaekfigpkogbaaZ
import Derived.Lib.Bytealg
namespace Go.Proofs.Ytdaekfigpkogbaa
open Go.RowKit

set_option maxHeartbeats 1000000 in
set_option maxRecDepth 100000 in
theorem cmpStr_any (a b : List UInt8) (w : World) :
    Calls Try.prog 41 #[.string ⟨a.toArray⟩, .string ⟨b.toArray⟩] w fun e w' => e = .returned (.int .i64 (Lib.compareBytes a b)) ∧ w = w' := by
  go_enter Try.func41, Try.ntmps41
  go_wp2
  rw [run_callFunc_extern Try.func42 (by kernel_rfl) (by kernel_rfl) (by kernel_rfl) (e := Extern.BytealgCompare.compare) (by kernel_rfl), Lib.run_compareString]
  simp only [Result.andThen]
  rw [Oper.upon_value]
  go_wp2
  go_ret
  exact ⟨rfl, rfl⟩
set_option maxHeartbeats 1000000 in
theorem compare_any (a b : List UInt8) (w : World) :
    Calls Try.prog 39 #[.string ⟨a.toArray⟩, .string ⟨b.toArray⟩] w fun e w' => e = .returned (.int .i64 (Lib.compareBytes a b)) ∧ w = w' := by
  go_enter Try.func39, Try.ntmps39
  go_wp2_with (go_at_call 41; refine (cmpStr_any _ _ _).mono ?_; rintro e w' ⟨rfl, rfl⟩)
  go_ret
  exact ⟨rfl, rfl⟩

set_option maxHeartbeats 1000000 in
theorem clos_any (p q : Nat) (A : Option Addr) (c k : Nat) (fs : List Fl) (f : Fl) (n : List UInt8) (w : World) (hr : Rd w A fs) (hc : fs.length ≤ 100000)
    (hp : w.cell? ⟨p, 0, none⟩ = some (.string ⟨n.toArray⟩)) (hq : w.cell? ⟨q, 0, none⟩ = some (.slice A fs.length c)) (hf : Hid (fs[k]? = some f)) (hk : k < fs.length) :
    Calls Try.prog 38 #[.int .i64 k, .pointer (some ⟨p, 0, none⟩), .pointer (some ⟨q, 0, none⟩)] w fun e w' => e = .returned (.int .i64 (Lib.compareBytes n f.1)) ∧ ∃ m, w' = w.drewN m := by
  obtain ⟨b, o, rfl, hcell⟩ := hr (by omega)
  obtain ⟨c1, c2⟩ := hcell k f hf.out
  clear hcell hr
  have i1 : (k : Int) < (fs.length : Int) := by omega
  go_enter Try.func38, Try.ntmps38
  go_wp2_with fail
  go_quiet ((go_at_call 39; exact quiet_left (compare_any _ _ _)))
  go_wp2
  go_ret
  exact ⟨rfl, _, rfl⟩
  where
  quiet_left {P : Program} {f : FuncId} {args : Array Value} {w : World} {n : Nat} {v : Value}
    (h : Calls P f args (w.drewN n) fun e w' => e = .returned v ∧ w.drewN n = w') : Calls P f args (w.drewN n) fun e w'' => e = .returned v ∧ ∃ m, w'' = w.drewN m :=
  h.mono fun _ _ ⟨he, hm⟩ => ⟨he, n, hm.symm⟩

theorem cb_le {n m : List UInt8} (h : Op.bytesLess m n = false) : (Lib.compareBytes n m = -1 ∧ m ≠ n) ∨ (Lib.compareBytes n m = 0 ∧ m = n) := by
  rcases bl_tri n m with k | k | k
  · exact .inl ⟨cb_lt k, (bl_ne k).symm⟩
  · subst k; exact .inr ⟨cb_self _, rfl⟩
  · rw [k] at h; cases h
theorem get_of {fs : List Fl} {k : Nat} {f : Fl} (h : fs[k]? = some f) (hk : k < fs.length) : fs[k] = f := by
  rw [List.getElem?_eq_getElem hk] at h; exact Option.some.inj h
theorem lo_step {fs : List Fl} {n : List UInt8} {h : Nat} {f : Fl} (hs : Sorted fs) (hf : fs[h]? = some f) (hl : Op.bytesLess f.1 n = true) : ∀ t (q : t < fs.length), t < h + 1 → Op.bytesLess fs[t].1 n = true := fun t q k => by
  have hh : h < fs.length := by
    rcases Nat.lt_or_ge h fs.length with z | z
    · exact z
    · rw [List.getElem?_eq_none z] at hf; cases hf
  have e := get_of hf hh
  rcases Nat.lt_or_ge t h with z | z
  · have := hs.at z hh
    rw [e] at this
    exact bl_trans this hl
  · obtain rfl : t = h := by omega
    rw [e]; exact hl
theorem hi_step {fs : List Fl} {n : List UInt8} {h : Nat} {f : Fl} (hs : Sorted fs) (hf : fs[h]? = some f) (hl : Op.bytesLess f.1 n = false) : ∀ t (q : t < fs.length), h ≤ t → Op.bytesLess fs[t].1 n = false := fun t q k => by
  have e := get_of hf (by omega)
  rcases Nat.lt_or_ge h t with z | z
  · have := hs.at z q
    rw [e] at this
    cases k2 : Op.bytesLess fs[t].1 n
    · rfl
    · rw [bl_trans this k2] at hl; cases hl
  · obtain rfl : t = h := by omega
    rw [e]; exact hl

theorem ret_find {i j : Nat} {a b : Bool} (h : j = i) (k : b = a) : Ending.returned (.tuple #[.int .i64 (i : Int), .bool a]) = .returned (.tuple #[.int .i64 (j : Int), .bool b]) := by rw [h, k]
set_option maxHeartbeats 1000000 in
theorem sfind_any (p q : Nat) (A : Option Addr) (c : Nat) (fs : List Fl) (n : List UInt8) (w : World) (hr : Rd w A fs) (hc : fs.length ≤ 100000) (hs : Hid (Sorted fs))
    (hp : w.cell? ⟨p, 0, none⟩ = some (.string ⟨n.toArray⟩)) (hq : w.cell? ⟨q, 0, none⟩ = some (.slice A fs.length c)) :
    Calls Try.prog 37 #[.int .i64 fs.length, .func (Fn.func 38) #[] #[.pointer (some ⟨p, 0, none⟩), .pointer (some ⟨q, 0, none⟩)]] w fun e w' => e = .returned (.tuple #[.int .i64 (plc fs n), .bool (hasL fs n)]) ∧ ∃ m, w' = w.drewN m := by
  go_enter Try.func37, Try.ntmps37
  go_wp2
  go_loopw [4, 6] (fun x y wr => ∃ i j m : Nat, i ≤ j ∧ j ≤ fs.length ∧ x = .int .i64 i ∧ y = .int .i64 j ∧ (∀ t (h : t < fs.length), t < i → Op.bytesLess fs[t].1 n = true) ∧ (∀ t (h : t < fs.length), j ≤ t → Op.bytesLess fs[t].1 n = false) ∧ wr = w.drewN m) (fun x y _ => (intOf y).toNat - (intOf x).toNat)
  case atStart => exact ⟨0, fs.length, 0, Nat.zero_le _, Nat.le_refl _, rfl, rfl, (fun t _ h => absurd h (by omega)), (fun t h k => absurd h (by omega)), rfl⟩
  case round =>
    obtain ⟨i, j, m, hij, hj, rfl, rfl, hlo, hhi, rfl⟩ := hrel
    have Hlo := Lib.hid hlo
    have Hhi := Lib.hid hhi
    clear hlo hhi
    by_cases hlt : i < j
    · obtain ⟨h, hh⟩ : ∃ h, h = (i + j) / 2 := ⟨_, rfl⟩
      have HE := Lib.hid (show ((i : Int) + (j : Int)) / 2 = (h : Int) by omega)
      have hh1 : i ≤ h := by omega
      have hh2 : h < j := by omega
      clear hh
      obtain ⟨f, hf⟩ : ∃ f, fs[h]? = some f := ⟨_, List.getElem?_eq_getElem (by omega)⟩
      have HF := Lib.hid hf
      clear hf
      have HC := Lib.hid (fun m => clos_any p q A c h fs f n (w.drewN m) (hr.drewN m) hc hp hq HF (by omega))
      clear hr
      cases hl : Op.bytesLess f.1 n
      · have HL := Lib.hid hl
        clear hl
        rcases cb_le HL.out with ⟨e1, _⟩ | ⟨e1, _⟩
        all_goals
          have E1 := Lib.hid e1
          clear e1
          go_wp2_with fail
          rw [HE.out]
          refine (HC.out m).mono ?_
          rw [E1.out]
          rintro e w1 ⟨rfl, m1, rfl⟩
          go_wp2
          go_roundw
          case rel => exact ⟨i, h, _, by omega, by omega, rfl, rfl, Hlo.out, hi_step hs.out HF.out HL.out, rfl⟩
          case measure => simp [intOf]; omega
      · have HL := Lib.hid hl
        clear hl
        have E1 := Lib.hid (cb_gt HL.out)
        go_wp2_with fail
        rw [HE.out]
        refine (HC.out m).mono ?_
        rw [E1.out]
        rintro e w1 ⟨rfl, m1, rfl⟩
        go_wp2
        go_roundw
        case rel => exact ⟨h + 1, j, _, by omega, by omega, by go_num, rfl, lo_step hs.out HF.out HL.out, Hhi.out, rfl⟩
        case measure => simp [intOf]; omega
    · obtain rfl : i = j := by omega
      have hpl := plc_unique hs.out hj Hlo.out Hhi.out
      have HP := Lib.hid hpl
      by_cases hl : i < fs.length
      · obtain ⟨f, hf⟩ : ∃ f, fs[i]? = some f := ⟨_, List.getElem?_eq_getElem (by omega)⟩
        have e := get_of hf hl
        have hle : Op.bytesLess f.1 n = false := by have := Hhi.out i hl (Nat.le_refl _); rwa [e] at this
        have hhas : hasL fs n = (f.1 == n) := by
          have := hasL_plc hs.out (n := n) (by omega)
          rw [this]
          subst hpl
          rw [e]
        have HF := Lib.hid hf
        have HH := Lib.hid hhas
        have HC := Lib.hid (fun m => clos_any p q A c i fs f n (w.drewN m) (hr.drewN m) hc hp hq HF (by omega))
        clear hf e hhas hpl hr
        rcases cb_le hle with ⟨e1, e2⟩ | ⟨e1, e2⟩
        · have E1 := Lib.hid e1
          have E2 := Lib.hid e2
          clear e1 e2 hle
          go_wp2_with fail
          refine (HC.out m).mono ?_
          rw [E1.out]
          rintro e w1 ⟨rfl, m1, rfl⟩
          go_wp2
          go_ret2
          exact ⟨ret_find HP.out (HH.out.trans (beq_eq_false_iff_ne.2 E2.out)), _, by first | rfl | exact World.drewN_drewN _ _ _⟩
        · have E1 := Lib.hid e1
          have E2 := Lib.hid e2
          clear e1 e2 hle
          go_wp2_with fail
          refine (HC.out m).mono ?_
          rw [E1.out]
          rintro e w1 ⟨rfl, m1, rfl⟩
          go_wp2
          go_ret2
          exact ⟨ret_find HP.out (HH.out.trans (beq_iff_eq.2 E2.out)), _, by first | rfl | exact World.drewN_drewN _ _ _⟩
      · have HH := Lib.hid (hasL_plc_end (fs := fs) (n := n) (by omega))
        clear hpl
        go_wp2
        go_ret2
        exact ⟨ret_find HP.out HH.out, _, rfl⟩

theorem two_cells {w : World} (a b : Value) (t u : TypeId) : ((w.alloc (.cells #[a] t)).alloc (.cells #[b] u)).cell? ⟨w.heap.size, 0, none⟩ = some a ∧ ((w.alloc (.cells #[a] t)).alloc (.cells #[b] u)).cell? ⟨w.heap.size + 1, 0, none⟩ = some b := by
  refine ⟨?_, ?_⟩
  · rw [World.cell?_alloc_past _ _ _ (by simp), World.cell?_alloc_new]; rfl
  · rw [World.cell?_alloc_at _ _ _ _ (by simp)]; rfl
set_option maxHeartbeats 1000000 in
theorem find_any (A : Option Addr) (c : Nat) (fs : List Fl) (n : List UInt8) (w : World) (hr : Rd w A fs) (hc : fs.length ≤ 100000) (hs : Hid (Sorted fs)) :
    Calls Try.prog 30 #[.slice A fs.length c, .string ⟨n.toArray⟩] w fun e w' => e = .returned (.tuple #[.int .i64 (plc fs n), .bool (hasL fs n)]) ∧ Below w.heap.size w w' := by
  have hb := bch (one_below w (.cells #[.slice A fs.length c] 22)) (one_below _ (.cells #[.string ⟨n.toArray⟩] 9))
  obtain ⟨h1, h2⟩ := two_cells (w := w) (.slice A fs.length c) (.string ⟨n.toArray⟩) 22 9
  have HC := Lib.hid (sfind_any (w.heap.size + 1) w.heap.size A c fs n _ (hr.below hb) hc hs h2 h1)
  clear h1 h2
  go_enter Try.func30, Try.ntmps30
  go_wp2_with fail
  refine HC.out.mono ?_
  rintro e w1 ⟨rfl, m, rfl⟩
  go_wp2
  go_ret2
  exact ⟨rfl, bch hb (drewN_below _ _)⟩
end Go.Proofs.Ytdaekfigpkogbaa
