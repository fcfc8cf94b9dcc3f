/-
  Contract of count.romanValue over the translation: for every text of at most a million bytes it returns the plain function's number; the numerals' table lies in memory; old memory stays as it was.
-/
import Derived.Test.YtglhcnhenhfkiaaDoorT4
namespace Go.Proofs.YtglhcnhenhfkiaaDoor
open Go.RowKit Go.Sort

/-- One numeral, taken off a text's head as often as it stands there (at most k times). -/
def rvW (v : Int) (t : List UInt8) : Nat → Int → List UInt8 → Int × List UInt8
  | 0, n, s => (n, s)
  | k + 1, n, s => if t.isPrefixOf s then rvW v t k (cAdd n v) (s.drop t.length) else (n, s)
def rvStep (p : Int × List UInt8) (x : Nat × List UInt8) : Int × List UInt8 := rvW x.1 x.2 p.2.length p.1 p.2
def rvP (s : List UInt8) (k : Nat) : Int × List UInt8 := (numT.take k).foldl rvStep (0, s)
def rvL (s : List UInt8) : Int := (rvP s 13).1
theorem rvP_succ (s : List UInt8) (k : Nat) (h : k < 13) : rvP s (k + 1) = rvStep (rvP s k) (numAt k) := by
  unfold rvP numAt
  have hl : k < numT.length := h
  rw [List.take_succ_eq_append_getElem hl, List.foldl_append]
  simp [List.getD, List.getElem?_eq_getElem hl]
theorem cAdd_bd (a b : Int) : 0 ≤ cAdd a b ∧ cAdd a b ≤ 999999 := cCut_bd _
theorem rvW_bd (v : Int) (t : List UInt8) : ∀ (k : Nat) (n : Int) (s : List UInt8), 0 ≤ n → n ≤ 999999 → 0 ≤ (rvW v t k n s).1 ∧ (rvW v t k n s).1 ≤ 999999 ∧ (rvW v t k n s).2.length ≤ s.length
  | 0, n, s, h0, h1 => ⟨h0, h1, Nat.le_refl _⟩
  | k + 1, n, s, h0, h1 => by
    unfold rvW
    split
    · have := rvW_bd v t k (cAdd n v) (s.drop t.length) (cAdd_bd _ _).1 (cAdd_bd _ _).2
      simp only [List.length_drop] at this
      omega
    · exact ⟨h0, h1, Nat.le_refl _⟩
theorem rvP_bd (s : List UInt8) (k : Nat) (h : k ≤ 13) : 0 ≤ (rvP s k).1 ∧ (rvP s k).1 ≤ 999999 ∧ (rvP s k).2.length ≤ s.length := by
  induction k with
  | zero => simp [rvP]
  | succ k ih =>
    have h1 := ih (by omega)
    rw [rvP_succ s k (by omega)]
    have h2 := rvW_bd (numAt k).1 (numAt k).2 (rvP s k).2.length (rvP s k).1 (rvP s k).2 h1.1 h1.2.1
    unfold rvStep
    omega
/-- Within one row of the table: m is reckoned, l is left; what comes of it is R. -/
def RV (x : Nat × List UInt8) (R : Int × List UInt8) (m : Int) (l : List UInt8) : Prop := 0 ≤ m ∧ m ≤ 999999 ∧ ∃ k, l.length ≤ k ∧ rvW x.1 x.2 k m l = R
theorem RV.start (p : Int × List UInt8) (x : Nat × List UInt8) (h0 : 0 ≤ p.1) (h1 : p.1 ≤ 999999) : RV x (rvStep p x) p.1 p.2 := ⟨h0, h1, _, Nat.le_refl _, rfl⟩
theorem pre_len {t l : List UInt8} (h : t.isPrefixOf l = true) : t.length ≤ l.length := (List.isPrefixOf_iff_prefix.1 h).length_le
theorem RV.step {x : Nat × List UInt8} {R : Int × List UInt8} {m : Int} {l : List UInt8} (h : RV x R m l) (ht : 1 ≤ x.2.length) (hp : x.2.isPrefixOf l = true) : RV x R (cAdd m x.1) (l.drop x.2.length) := by
  obtain ⟨h0, h1, k, hk, hR⟩ := h
  have hl := pre_len hp
  refine ⟨(cAdd_bd _ _).1, (cAdd_bd _ _).2, k - 1, ?_, ?_⟩
  · simp only [List.length_drop]; omega
  · obtain ⟨k', rfl⟩ : ∃ k', k = k' + 1 := ⟨k - 1, by omega⟩
    rw [rvW, if_pos hp] at hR
    exact hR
theorem RV.done {x : Nat × List UInt8} {R : Int × List UInt8} {m : Int} {l : List UInt8} (h : RV x R m l) (hp : x.2.isPrefixOf l = false) : R = (m, l) := by
  obtain ⟨h0, h1, k, hk, hR⟩ := h
  cases k with
  | zero => exact hR.symm
  | succ k =>
    rw [rvW, if_neg (by simp [hp])] at hR
    exact hR.symm
theorem prefix_yes (l t : List UInt8) (w : World) (h : t.isPrefixOf l = true) :
    Calls Tryd.prog 40 #[.string ⟨l.toArray⟩, .string ⟨t.toArray⟩] w fun e w' => e = .returned (.bool true) ∧ w = w' := by
  refine (Tryd.strings_HasPrefix _ _ w).mono ?_
  rintro e w' ⟨rfl, rfl⟩
  exact ⟨by simp [Lib.hasPrefix, h], rfl⟩
theorem prefix_no (l t : List UInt8) (w : World) (h : t.isPrefixOf l = false) :
    Calls Tryd.prog 40 #[.string ⟨l.toArray⟩, .string ⟨t.toArray⟩] w fun e w' => e = .returned (.bool false) ∧ w = w' := by
  refine (Tryd.strings_HasPrefix _ _ w).mono ?_
  rintro e w' ⟨rfl, rfl⟩
  exact ⟨by simp [Lib.hasPrefix, h], rfl⟩

def strSz : Value → Nat
  | .string s => s.size
  | _ => 0
theorem strSz_mk (l : List UInt8) : strSz (.string ⟨l.toArray⟩) = l.length := rfl
theorem str_drop (l : List UInt8) (k : Nat) : Value.string ((⟨l.toArray⟩ : ByteArray).extract k l.length) = Value.string ⟨(l.drop k).toArray⟩ := by
  congr 1
  apply ByteArray.ext
  simp only [ByteArray.data_extract, List.extract_toArray, List.extract_eq_take_drop]
  rw [List.take_of_length_le (by simp)]

set_option maxHeartbeats 400000 in
theorem romanValue_any (s : List UInt8) (w : World) (t : TypeId) (fr : Nat × Nat) (_hs : s.length ≤ 1000000) (hg : w.heap[0]? = some (.cells numCells t fr)) :
    Calls Tryd.prog 30 #[.string ⟨s.toArray⟩] w fun e w' => e = .returned (.int .i64 (rvL s)) ∧ Below w.heap.size w w' := by
  go_enter Tryd.func30, Tryd.ntmps30
  go_wp2_with (refine wpList_load_row rfl 44 _ rfl 0 rfl t numCells fr _ hg Tryd.underlying44 rfl (by kernel_rfl) ?_)
  go_loopw [0, 3, 7] (fun l m i wr => ∃ k : Nat, k ≤ 13 ∧ i = .int .i64 k ∧ m = .int .i64 (rvP s k).1 ∧ l = .string ⟨(rvP s k).2.toArray⟩ ∧ Below w.heap.size w wr) (fun _ _ i _ => 13 - (intOf i).toNat)
  case atStart => exact ⟨0, by omega, rfl, rfl, rfl, Below.refl _ _⟩
  case round =>
    obtain ⟨k, hk, rfl, rfl, rfl, hb⟩ := hrel
    have hbd := rvP_bd s k hk
    by_cases hlt : k < 13
    · have hidx := num_index k hlt
      have hv := numAt_pos k hlt
      have hx2 := numAt_len k hlt
      have hd : decide ((k : Int) < 13) = true := by simp; omega
      have HS := Lib.hid (rvP_succ s k hlt)
      have HR := Lib.hid (RV.start (rvP s k) (numAt k) hbd.1 hbd.2.1)
      generalize hp : rvP s k = p at *
      generalize hx : numAt k = x at *
      clear hp hx
      generalize hR : rvStep p x = R at *
      clear hR
      go_wp2_with (go_at_call 40; fail)
      go_loop [0, 3] (fun l m => ∃ (j : Int) (r : List UInt8), RV x R j r ∧ r.length ≤ s.length ∧ m = .int .i64 j ∧ l = .string ⟨r.toArray⟩) (fun l _ => strSz l)
      case atStart => exact ⟨p.1, p.2, HR.out, hbd.2.2, rfl, rfl⟩
      case round =>
        obtain ⟨j, r, hrv, hrl, rfl, rfl⟩ := hrel
        have hj0 := hrv.1
        have hj1 := hrv.2.1
        by_cases hp : x.2.isPrefixOf r = true
        · have hpl := pre_len hp
          have HP := Lib.hid hp
          have HV := Lib.hid (hrv.step hx2.1 hp)
          clear hp hrv
          go_wp2_with (first | (go_at_call 40; refine (prefix_yes _ _ _ HP.out).mono ?_; rintro e w' ⟨rfl, rfl⟩) | (go_at_call 9; refine (add_any _ _ _).mono ?_; rintro e w' ⟨rfl, rfl⟩))
          have hlen : (r.drop x.2.length).length < r.length := by simp only [List.length_drop]; omega
          refine ⟨⟨cAdd j x.1, r.drop x.2.length, HV.out, by omega, rfl, str_drop _ _⟩, ?_⟩
          rw [str_drop, strSz_mk, strSz_mk]; exact hlen
        · have hp' : x.2.isPrefixOf r = false := Bool.eq_false_iff.2 hp
          have HD := Lib.hid (hrv.done hp')
          have HP := Lib.hid hp'
          have HE := Lib.hid (HS.out.trans HD.out)
          clear hp hp' hrv
          go_wp2_with (first | (go_at_call 40; refine (prefix_no _ _ _ HP.out).mono ?_; rintro e w' ⟨rfl, rfl⟩))
          go_roundw
          case rel => exact ⟨k + 1, by omega, by go_num, by rw [HE.out], by rw [HE.out], hb.alloc (hb.size) _⟩
          case measure => simp [intOf]; omega
    · obtain rfl : k = 13 := by omega
      go_wp2
      go_ret
      exact ⟨rfl, hb⟩
end Go.Proofs.YtglhcnhenhfkiaaDoor
