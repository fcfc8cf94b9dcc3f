/-
  Contracts of strconv.Itoa, of the document's answer's Digits, and of both Puts: a text with its length ahead; old memory stays.
-/
import Derived.Test.YtmggpockikcjjaaGreatDoorShelf
import Derived.Test.YtmggpockikcjjaaGreatDoorR
import Derived.Test.YtmggpockikcjjaaGreatDoorX
namespace Go.Proofs.YtmggpockikcjjaaGreatDoor
open Go.RowKit Go.Sort

theorem gPow : Tryz.prog.globalNamed "internal/strconv.uint64pow10" = some 3 := by kernel_rfl
/-- What the walks ask of the world: the library's powers of ten. -/
structure Tabs (w : World) : Prop where
  pow : Lib.TabIs Tryz.prog w "internal/strconv.uint64pow10" .u64 Lib.pow10Tab
  big : 6 ≤ w.heap.size
theorem Tabs.below {w w' : World} (h : Tabs w) (hb : Below w.heap.size w w') : Tabs w' := by
  have h8 := h.big
  exact ⟨var?_below hb gPow (by omega) h.pow, Nat.le_trans h8 hb.size⟩
theorem below_grow (w : World) (k : Nat) (os : Array Obj) : Below w.heap.size w (grow (w.drewN k) os) :=
  ⟨rfl, rfl, rfl, by show w.heap.size ≤ (w.heap ++ os).size; rw [Array.size_append]; omega, fun j hj => by show (w.heap ++ os)[j]? = w.heap[j]?; exact Array.getElem?_append_left hj⟩
theorem itoa_any (m : Nat) (w : World) (T : Tabs w) (hm : m ≤ 999999) :
    Calls Tryz.prog 57 #[.int .i64 m] w fun e w' => e = .returned (.string ⟨(Lib.decDigits m).toArray⟩) ∧ Below w.heap.size w w' := by
  refine (Tryz.strconv_Itoa m (by omega) (by omega) w T.pow).mono ?_
  rintro e w' ⟨rfl, k, os, rfl⟩
  exact ⟨by simp [Lib.itoa], below_grow _ _ _⟩
theorem str_app (l r : List UInt8) : Value.string (({ data := l.toArray } : ByteArray) ++ { data := r.toArray }) = Value.string { data := (l ++ r).toArray } := by
  congr 1
theorem conv1 (w : World) (x : Int) (c : UInt8) (hc : (c.toNat : Int) = x) :
    (convert 80 9 (.slice (some ⟨w.heap.size, 0, none⟩) 1 1)).run Tryz.prog (w.alloc (Obj.cells #[Value.int IntKind.u8 x] 5)) = .ok (.string ⟨[c].toArray⟩) (w.alloc (Obj.cells #[Value.int IntKind.u8 x] 5)) := by
  refine run_convert_bytes_back _ 80 9 5 ⟨w.heap.size, 0, none⟩ 1 [c] Tryz.underlying80 Tryz.underlying5 Tryz.underlying9 (fun j hj => ?_)
  obtain rfl : j = 0 := by simpa using hj
  show (w.alloc _).cell? ⟨w.heap.size, 0, none⟩ = _
  rw [World.cell?_alloc_new]
  simp only [List.getElem_cons_zero]
  rw [hc]; rfl
theorem byte_int (k : Nat) (h : k < 256) : ((UInt8.ofNat k).toNat : Int) = (k : Int) := by
  rw [UInt8.toNat_ofNat', Nat.mod_eq_of_lt h]
set_option maxRecDepth 100000 in
set_option maxHeartbeats 400000 in
theorem rdigits_small (n : Nat) (c : UInt8) (w : World) (h : n < 10) (Hc : Hid ((c.toNat : Int) = 48 + (n : Int) % 10)) :
    Calls Tryz.prog 60 #[.int .i64 n] w fun e w' => e = .returned (.string ⟨[c].toArray⟩) ∧ Below w.heap.size w w' := by
  have hcv := conv1 w (48 + (n : Int) % 10) c Hc.out
  go_enter Tryz.func60, Tryz.ntmps60
  go_wp2_with fail
  go_ret
  exact ⟨rfl, one_below _ _⟩
set_option maxRecDepth 100000 in
set_option maxHeartbeats 400000 in
theorem rdigits_big (n : Nat) (c : UInt8) (w : World) (l : List UInt8) (h : 10 ≤ n) (hn : n ≤ 999999) (hl : l.length ≤ 1000) (Hc : Hid ((c.toNat : Int) = 48 + (n : Int) % 10))
    (IH : Hid (∀ w, Calls Tryz.prog 60 #[.int .i64 (n / 10 : Nat)] w fun e w' => e = .returned (.string ⟨l.toArray⟩) ∧ Below w.heap.size w w')) :
    Calls Tryz.prog 60 #[.int .i64 n] w fun e w' => e = .returned (.string ⟨(l ++ [c]).toArray⟩) ∧ Below w.heap.size w w' := by
  have hcv := conv1 w (48 + (n : Int) % 10) c Hc.out
  have HE := Lib.hid (show ((n : Int) / 10) = ((n / 10 : Nat) : Int) by omega)
  go_enter Tryz.func60, Tryz.ntmps60
  go_wp2_with fail
  rw [HE.out]
  refine (IH.out _).mono ?_
  rintro e w1 ⟨rfl, hb⟩
  go_wp2_with fail
  go_ret
  exact ⟨congrArg Ending.returned (str_app l [c]), (one_below _ _).trans (hb.mono (one_below _ _).size)⟩
theorem dec_len (n : Nat) (h : n ≤ 999999) : (Lib.decDigits n).length ≤ 6 := by
  rw [Lib.decDigits_length]
  by_cases h10 : n < 10
  · rw [Lib.nDigits_small h10]; omega
  by_cases h2 : n < 100
  · rw [Lib.nDigits_unique 1 n (by omega) (by omega)]; omega
  by_cases h3 : n < 1000
  · rw [Lib.nDigits_unique 2 n (by omega) (by omega)]; omega
  by_cases h4 : n < 10000
  · rw [Lib.nDigits_unique 3 n (by omega) (by omega)]; omega
  by_cases h5 : n < 100000
  · rw [Lib.nDigits_unique 4 n (by omega) (by omega)]; omega
  · rw [Lib.nDigits_unique 5 n (by omega) (by omega)]; omega
theorem rdigits_any (n : Nat) : ∀ (w : World), n ≤ 999999 →
    Calls Tryz.prog 60 #[.int .i64 n] w fun e w' => e = .returned (.string ⟨(Lib.decDigits n).toArray⟩) ∧ Below w.heap.size w w' := by
  induction n using Nat.strongRecOn with
  | _ n ih =>
    intro w hn
    by_cases h : n < 10
    · rw [Lib.decDigits, dif_pos h]
      exact rdigits_small n _ w h (Lib.hid (by rw [byte_int _ (by omega)]; omega))
    · rw [Lib.decDigits, dif_neg h]
      have := dec_len (n / 10) (by omega)
      exact rdigits_big n _ w _ (by omega) hn (by omega) (Lib.hid (by rw [byte_int _ (by omega)]; omega)) (Lib.hid fun w' => ih (n / 10) (by omega) w' (by omega))


theorem wput_eq (s : List UInt8) : Value.string (((({ data := (Lib.decDigits s.length).toArray } : ByteArray) ++ { data := #[58] }) ++ { data := s.toArray }) ++ { data := #[44] }) = .string ⟨(wputL s).toArray⟩ := by
  congr 1
  apply ByteArray.ext
  simp [wputL]
set_option maxHeartbeats 400000 in
theorem wput_any (s : List UInt8) (w : World) (T : Tabs w) (hs : s.length ≤ 999999) :
    Calls Tryz.prog 38 #[.string ⟨s.toArray⟩] w fun e w' => e = .returned (.string ⟨(wputL s).toArray⟩) ∧ Below w.heap.size w w' := by
  have HP := Lib.hid (wput_eq s)
  have C := Lib.hid (itoa_any s.length w T hs)
  have hl := dec_len s.length hs
  generalize hD : Lib.decDigits s.length = D at *
  generalize hP : wputL s = P at *
  clear hD hP
  go_enter Tryz.func38, Tryz.ntmps38
  go_wp2_with fail
  refine C.out.mono ?_
  rintro e w1 ⟨rfl, hb⟩
  go_wp2
  go_ret
  exact ⟨congrArg Ending.returned HP.out, hb⟩
set_option maxHeartbeats 400000 in
theorem wrput_any (s : List UInt8) (w : World) (hs : s.length ≤ 999999) :
    Calls Tryz.prog 46 #[.string ⟨s.toArray⟩] w fun e w' => e = .returned (.string ⟨(wputL s).toArray⟩) ∧ Below w.heap.size w w' := by
  have HP := Lib.hid (wput_eq s)
  have C := Lib.hid (rdigits_any s.length w hs)
  have hl := dec_len s.length hs
  generalize hD : Lib.decDigits s.length = D at *
  generalize hP : wputL s = P at *
  clear hD hP
  go_enter Tryz.func46, Tryz.ntmps46
  go_wp2_with fail
  refine C.out.mono ?_
  rintro e w1 ⟨rfl, hb⟩
  go_wp2
  go_ret
  exact ⟨congrArg Ending.returned HP.out, hb⟩
end Go.Proofs.YtmggpockikcjjaaGreatDoor
