/-
  Contract of count.Text over the translation: for every number and style it returns the plain function's text; the tables lie in memory; old memory stays as it was.
-/
import Derived.Test.YtglhcnhenhfkiaaDoorT1
import Derived.Test.YtglhcnhenhfkiaaDoorT2
import Derived.Test.YtglhcnhenhfkiaaDoorT3
import Derived.Lib.LaidTab
namespace Go.Proofs.YtglhcnhenhfkiaaDoor
open Go.RowKit Go.Sort

theorem gPow : Tryd.prog.globalNamed "internal/strconv.uint64pow10" = some 2 := by kernel_rfl
/-- What the walks ask of the world: the numerals' table, and the library's powers of ten. -/
structure Tabs (w : World) : Prop where
  num : ∃ t fr, w.heap[0]? = some (.cells numCells t fr)
  pow : Lib.TabIs Tryd.prog w "internal/strconv.uint64pow10" .u64 Lib.pow10Tab
  cas : Lib.CaseVar 1 Lib.caseA w
  u8 : Lib.Utf8Tabs 4 5 w
  big : 8 ≤ w.heap.size
theorem Tabs.below {w w' : World} (h : Tabs w) (hb : Below w.heap.size w w') : Tabs w' := by
  have h8 := h.big
  refine ⟨?_, var?_below hb gPow (by omega) h.pow, ?_, ?_, Nat.le_trans h8 hb.size⟩
  · obtain ⟨t, fr, hn⟩ := h.num
    exact ⟨t, fr, by rw [hb.block 0 (by omega)]; exact hn⟩
  · obtain ⟨R, oR, cap, hc, hT⟩ := h.cas
    exact ⟨R, oR, cap, cell_later hb hc, fun i hi => ⟨cell_later hb (hT i hi).1, cell_later hb (hT i hi).2.1, cell_later hb (hT i hi).2.2.1, cell_later hb (hT i hi).2.2.2.1, cell_later hb (hT i hi).2.2.2.2⟩⟩
  · exact ⟨fun c hc => cell_later hb (h.u8.1 c hc), fun i hi => ⟨cell_later hb (h.u8.2 i hi).1, cell_later hb (h.u8.2 i hi).2⟩⟩

theorem below_grow (w : World) (k : Nat) (os : Array Obj) : Below w.heap.size w (grow (w.drewN k) os) :=
  ⟨rfl, rfl, rfl, by show w.heap.size ≤ (w.heap ++ os).size; rw [Array.size_append]; omega, fun j hj => by show (w.heap ++ os)[j]? = w.heap[j]?; exact Array.getElem?_append_left hj⟩
theorem itoa_any (m : Nat) (w : World) (T : Tabs w) (hm : m ≤ 999999) :
    Calls Tryd.prog 20 #[.int .i64 m] w fun e w' => e = .returned (.string ⟨(Lib.decDigits m).toArray⟩) ∧ Below w.heap.size w w' := by
  refine (Tryd.strconv_Itoa m (by omega) (by omega) w T.pow).mono ?_
  rintro e w' ⟨rfl, k, os, rfl⟩
  exact ⟨by simp [Lib.itoa], below_grow _ _ _⟩

/-- A counter's text, by its style. -/
def cTextN (m : Nat) (style : Int) : List UInt8 :=
  if style = 2 ∧ 1 ≤ m ∧ m ≤ 3999 then romC true m
  else if style = 1 ∧ 1 ≤ m ∧ m ≤ 3999 then romC false m
  else if style = 3 ∧ 1 ≤ m then letL m
  else Lib.decDigits m
def cText (n style : Int) : List UInt8 := cTextN (cCut n).toNat style


set_option maxHeartbeats 400000 in
theorem textN_any (n style : Int) (m : Nat) (w : World) (T : Tabs w) (hm : cCut n = m) (hm9 : m ≤ 999999) :
    Calls Tryd.prog 13 #[.int .i64 n, .int .i64 style] w fun e w' => e = .returned (.string ⟨(cTextN m style).toArray⟩) ∧ Below w.heap.size w w' := by
  obtain ⟨t, fr, hn⟩ := T.num
  have HM := Lib.hid hm
  have HN := Lib.hid hn
  clear hm hn
  by_cases h2 : style = 2
  · subst h2
    by_cases h1 : 1 ≤ m
    · by_cases h3 : m ≤ 3999
      · go_enter Tryd.func13, Tryd.ntmps13
        go_wp2_with (first | (go_at_call 11; refine (cut_any _ _).mono ?_; rintro e w' ⟨rfl, rfl⟩; rw [HM.out]) | (go_at_call 18; refine (romanText_any true m _ t fr h3 HN.out).mono ?_; rintro e w1 ⟨rfl, hb⟩))
        go_ret
        exact ⟨ret_str (by rw [cTextN, if_pos ⟨rfl, h1, h3⟩]), hb⟩
      · go_enter Tryd.func13, Tryd.ntmps13
        go_wp2_with (first | (go_at_call 11; refine (cut_any _ _).mono ?_; rintro e w' ⟨rfl, rfl⟩; rw [HM.out]) | (go_at_call 20; refine (itoa_any m _ T hm9).mono ?_; rintro e w1 ⟨rfl, hb⟩))
        go_ret
        exact ⟨ret_str (by rw [cTextN, if_neg (by omega), if_neg (by omega), if_neg (by omega)]), hb⟩
    · have h0 : (m : Int) < 1 := by omega
      go_enter Tryd.func13, Tryd.ntmps13
      go_wp2_with (first | (go_at_call 11; refine (cut_any _ _).mono ?_; rintro e w' ⟨rfl, rfl⟩; rw [HM.out]) | (go_at_call 20; refine (itoa_any m _ T hm9).mono ?_; rintro e w1 ⟨rfl, hb⟩))
      go_ret
      exact ⟨ret_str (by rw [cTextN, if_neg (by omega), if_neg (by omega), if_neg (by omega)]), hb⟩
  · have e2 : (style == 2) = false := by simpa using h2
    by_cases h1' : style = 1
    · subst h1'
      by_cases h1 : 1 ≤ m
      · by_cases h3 : m ≤ 3999
        · go_enter Tryd.func13, Tryd.ntmps13
          go_wp2_with (first | (go_at_call 11; refine (cut_any _ _).mono ?_; rintro e w' ⟨rfl, rfl⟩; rw [HM.out]) | (go_at_call 18; refine (romanText_any false m _ t fr h3 HN.out).mono ?_; rintro e w1 ⟨rfl, hb⟩))
          go_ret
          exact ⟨ret_str (by rw [cTextN, if_neg (by omega), if_pos ⟨rfl, h1, h3⟩]), hb⟩
        · go_enter Tryd.func13, Tryd.ntmps13
          go_wp2_with (first | (go_at_call 11; refine (cut_any _ _).mono ?_; rintro e w' ⟨rfl, rfl⟩; rw [HM.out]) | (go_at_call 20; refine (itoa_any m _ T hm9).mono ?_; rintro e w1 ⟨rfl, hb⟩))
          go_ret
          exact ⟨ret_str (by rw [cTextN, if_neg (by omega), if_neg (by omega), if_neg (by omega)]), hb⟩
      · have h0 : (m : Int) < 1 := by omega
        go_enter Tryd.func13, Tryd.ntmps13
        go_wp2_with (first | (go_at_call 11; refine (cut_any _ _).mono ?_; rintro e w' ⟨rfl, rfl⟩; rw [HM.out]) | (go_at_call 20; refine (itoa_any m _ T hm9).mono ?_; rintro e w1 ⟨rfl, hb⟩))
        go_ret
        exact ⟨ret_str (by rw [cTextN, if_neg (by omega), if_neg (by omega), if_neg (by omega)]), hb⟩
    · have e1 : (style == 1) = false := by simpa using h1'
      by_cases h3' : style = 3
      · subst h3'
        by_cases h1 : 1 ≤ m
        · go_enter Tryd.func13, Tryd.ntmps13
          go_wp2_with (first | (go_at_call 11; refine (cut_any _ _).mono ?_; rintro e w' ⟨rfl, rfl⟩; rw [HM.out]) | (go_at_call 19; refine (lettersText_any m _ hm9).mono ?_; rintro e w1 ⟨rfl, rfl⟩))
          go_ret
          exact ⟨ret_str (by rw [cTextN, if_neg (by omega), if_neg (by omega), if_pos ⟨rfl, h1⟩]), Below.refl _ _⟩
        · have h0 : (m : Int) < 1 := by omega
          go_enter Tryd.func13, Tryd.ntmps13
          go_wp2_with (first | (go_at_call 11; refine (cut_any _ _).mono ?_; rintro e w' ⟨rfl, rfl⟩; rw [HM.out]) | (go_at_call 20; refine (itoa_any m _ T hm9).mono ?_; rintro e w1 ⟨rfl, hb⟩))
          go_ret
          exact ⟨ret_str (by rw [cTextN, if_neg (by omega), if_neg (by omega), if_neg (by omega)]), hb⟩
      · have e3 : (style == 3) = false := by simpa using h3'
        go_enter Tryd.func13, Tryd.ntmps13
        go_wp2_with (first | (go_at_call 11; refine (cut_any _ _).mono ?_; rintro e w' ⟨rfl, rfl⟩; rw [HM.out]) | (go_at_call 20; refine (itoa_any m _ T hm9).mono ?_; rintro e w1 ⟨rfl, hb⟩))
        go_ret
        exact ⟨ret_str (by rw [cTextN, if_neg (by omega), if_neg (by omega), if_neg (by omega)]), hb⟩
theorem text_any (n style : Int) (w : World) (T : Tabs w) :
    Calls Tryd.prog 13 #[.int .i64 n, .int .i64 style] w fun e w' => e = .returned (.string ⟨(cText n style).toArray⟩) ∧ Below w.heap.size w w' := by
  have h := cCut_bd n
  exact textN_any n style (cCut n).toNat w T (by omega) (by omega)
end Go.Proofs.YtglhcnhenhfkiaaDoor
