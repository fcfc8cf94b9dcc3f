/-
  Plain mathematics of tokens (layer 6): the tokens of a text, the text of tokens, right tokens. No program text in it.
-/
namespace Go.Proofs.YtckldeabbkdbjaaDoor

abbrev By := List UInt8
abbrev Tok := Int × By
def blk (c : UInt8) : Bool := c == 32 || c == 9 || c == 10
def ltr (c : UInt8) : Bool := decide (97 ≤ c.toNat ∧ c.toNat ≤ 122 ∨ 65 ≤ c.toNat ∧ c.toNat ≤ 90)
def dgt (c : UInt8) : Bool := decide (49 ≤ c.toNat ∧ c.toNat ≤ 57)
def hdB (p : UInt8 → Bool) : By → Bool
  | [] => false
  | x :: _ => p x
/-- What begins there: 2 blanks or a remark, 4 a command, 5, 6 a brace, 7 a parameter, 1 a word. -/
def kd (c : UInt8) (r : By) : Int :=
  if (blk c || c == 37) = true then 2 else if (c == 92 && hdB ltr r) = true then 4 else if c = 123 then 5 else if c = 125 then 6 else if (c == 35 && hdB dgt r) = true then 7 else 1
def gapG : Bool → Nat → By → Nat × By
  | _, n, [] => (n, [])
  | true, n, c :: r => if c = 10 then gapG false n r else gapG true n r
  | false, n, c :: r => if c = 37 then gapG true n r else if c = 10 then gapG false (n + 1) r else if blk c = true then gapG false n r else (n, c :: r)
def wordG : By → By × By
  | [] => ([], [])
  | [c] => if kd c [] = 1 then ([c], []) else ([], [c])
  | c :: x :: r => if kd c (x :: r) = 1 then (if c = 92 then (x :: (wordG r).1, (wordG r).2) else (c :: (wordG (x :: r)).1, (wordG (x :: r)).2)) else ([], c :: x :: r)
def one (c : UInt8) (r : By) : Tok × By :=
  if kd c r = 1 then ((1, (wordG (c :: r)).1), (wordG (c :: r)).2)
  else if kd c r = 2 then ((if 2 ≤ (gapG false 0 (c :: r)).1 then 3 else 2, []), (gapG false 0 (c :: r)).2)
  else if kd c r = 4 then ((4, r.takeWhile ltr), r.dropWhile ltr)
  else if kd c r = 7 then ((7, r.take 1), r.drop 1)
  else ((kd c r, []), r)
def lexG : Nat → By → List Tok
  | 0, _ => []
  | _ + 1, [] => []
  | f + 1, c :: r => (one c r).1 :: lexG f (one c r).2
def toks (s : By) : List Tok := lexG s.length s
def escB (c : UInt8) : Bool := blk c || c == 92 || c == 123 || c == 125 || c == 37 || c == 35
def safeL (w : By) : By := w.flatMap fun c => if escB c = true then [92, c] else [c]
def tokT (t : Tok) : By :=
  if t.1 = 1 then safeL t.2 else if t.1 = 2 then [32] else if t.1 = 3 then [10, 10] else if t.1 = 4 then 92 :: t.2 else if t.1 = 5 then [123] else if t.1 = 6 then [125] else if t.1 = 7 then 35 :: t.2 else []
def textL (l : List Tok) : By := l.flatMap tokT
def mayB (t : Tok) : Bool :=
  if t.1 = 1 then decide (0 < t.2.length) else if t.1 = 4 then t.2.all ltr && decide (0 < t.2.length) else if t.1 = 7 then decide (t.2.length = 1) && t.2.all dgt
  else (t.1 == 2 || t.1 == 3 || t.1 == 5 || t.1 == 6) && t.2.isEmpty
def gapB (k : Int) : Bool := k == 2 || k == 3
def nextB (a b : Tok) : Bool := !(a.1 == 1 && b.1 == 1 || gapB a.1 && gapB b.1 || a.1 == 4 && b.1 == 1 && hdB ltr b.2)
def rightL : List Tok → Bool
  | [] => true
  | [a] => mayB a
  | a :: b :: r => mayB a && nextB a b && rightL (b :: r)

/-! ### each step goes on -/
theorem gap_len : ∀ (s : By) (b : Bool) (n : Nat), (gapG b n s).2.length ≤ s.length
  | [], b, n => by cases b <;> simp [gapG]
  | c :: r, true, n => by
    unfold gapG
    split
    · have := gap_len r false n; simp; omega
    · have := gap_len r true n; simp; omega
  | c :: r, false, n => by
    unfold gapG
    split
    · have := gap_len r true n; simp; omega
    · split
      · have := gap_len r false (n + 1); simp; omega
      · split
        · have := gap_len r false n; simp; omega
        · simp
theorem word_len : ∀ (f : Nat) (s : By), s.length ≤ f → (wordG s).2.length ≤ s.length
  | _, [], _ => by simp [wordG]
  | _, [c], _ => by unfold wordG; split <;> simp
  | 0, c :: x :: r, h => by simp at h
  | f + 1, c :: x :: r, h => by
    simp at h
    unfold wordG
    split
    · split
      · have := word_len f r (by omega); simp; omega
      · have := word_len f (x :: r) (by simp; omega); simp at this ⊢; omega
    · simp
theorem kd_blank {c : UInt8} {r : By} (h : kd c r = 2) : c = 37 ∨ c = 10 ∨ (c ≠ 37 ∧ c ≠ 10 ∧ blk c = true) := by
  unfold kd at h
  split at h
  · rename_i q
    rw [Bool.or_eq_true] at q
    by_cases h1 : c = 37
    · exact .inl h1
    · by_cases h2 : c = 10
      · exact .inr (.inl h2)
      · rcases q with q | q
        · exact .inr (.inr ⟨h1, h2, q⟩)
        · simp at q; exact absurd q h1
  · split at h
    · cases h
    · split at h
      · cases h
      · split at h
        · cases h
        · split at h <;> cases h
theorem gap_less {c : UInt8} {r : By} (h : kd c r = 2) (n : Nat) : (gapG false n (c :: r)).2.length ≤ r.length := by
  unfold gapG
  rcases kd_blank h with rfl | rfl | ⟨h1, h2, h3⟩
  · simp; exact gap_len r _ _
  · simp; exact gap_len r _ _
  · rw [if_neg h1, if_neg h2, if_pos h3]; exact gap_len r _ _
theorem word_less {c : UInt8} {r : By} (h : kd c r = 1) : (wordG (c :: r)).2.length ≤ r.length := by
  cases r with
  | nil => unfold wordG; rw [if_pos h]; simp
  | cons x r =>
    unfold wordG
    rw [if_pos h]
    split
    · have := word_len r.length r (Nat.le_refl _); simp; omega
    · exact word_len _ (x :: r) (Nat.le_refl _)
theorem one_less (c : UInt8) (r : By) : (one c r).2.length ≤ r.length := by
  unfold one
  split
  · exact word_less (by assumption)
  · split
    · exact gap_less (by assumption) 0
    · split
      · exact (List.dropWhile_suffix _).length_le
      · split
        · simp
        · simp
theorem lex_fuel : ∀ (f g : Nat) (s : By), s.length ≤ f → s.length ≤ g → lexG f s = lexG g s
  | 0, g, s, h, _ => by
    have : s = [] := List.eq_nil_of_length_eq_zero (by omega)
    subst this
    cases g <;> rfl
  | f + 1, 0, s, _, h => by
    have : s = [] := List.eq_nil_of_length_eq_zero (by omega)
    subst this; rfl
  | f + 1, g + 1, [], _, _ => rfl
  | f + 1, g + 1, c :: r, h1, h2 => by
    have := one_less c r
    simp at h1 h2
    unfold lexG
    rw [lex_fuel f g _ (by omega) (by omega)]
theorem toks_nil : toks [] = [] := rfl
theorem toks_cons (c : UInt8) (r : By) : toks (c :: r) = (one c r).1 :: toks (one c r).2 := by
  unfold toks
  rw [List.length_cons, lexG]
  have := one_less c r
  rw [lex_fuel r.length (one c r).2.length _ this (Nat.le_refl _)]

/-! ### what stops a token -/
def hk : By → Int
  | [] => 0
  | c :: r => kd c r
theorem kd_two {c : UInt8} {r : By} : kd c r = 2 ↔ (blk c || c == 37) = true := by
  unfold kd
  split
  · rename_i h; simp [h]
  · rename_i h
    constructor
    · intro q
      split at q
      · cases q
      · split at q
        · cases q
        · split at q
          · cases q
          · split at q <;> cases q
    · intro q; exact absurd q h
theorem kd_plain {c : UInt8} (h : escB c = false) (r : By) : kd c r = 1 := by
  unfold escB at h
  simp only [Bool.or_eq_false_iff, beq_eq_false_iff_ne] at h
  obtain ⟨⟨⟨⟨⟨h1, h2⟩, h3⟩, h4⟩, h5⟩, h6⟩ := h
  unfold kd
  rw [if_neg (by simp [h1, h5]), if_neg (by simp [h2]), if_neg h3, if_neg h4, if_neg (by simp [h6])]
theorem esc_ltr {c : UInt8} (h : escB c = true) : ltr c = false := by
  unfold escB blk at h
  simp only [Bool.or_eq_true, beq_iff_eq] at h
  rcases h with (((((h | h) | h) | h) | h) | h) | h
  · rcases h with h | h <;> subst h <;> rfl
  all_goals subst h; rfl
theorem kd_esc {c : UInt8} (h : ltr c = false) (r : By) : kd 92 (c :: r) = 1 := by
  unfold kd
  rw [if_neg (by decide), if_neg (by simp [hdB, h]), if_neg (by decide), if_neg (by decide), if_neg (by simp)]
theorem wordG_one (c : UInt8) : wordG [c] = if kd c [] = 1 then ([c], []) else ([], [c]) := by rw [wordG]
theorem wordG_two (c x : UInt8) (r : By) : wordG (c :: x :: r) = if kd c (x :: r) = 1 then (if c = 92 then (x :: (wordG r).1, (wordG r).2) else (c :: (wordG (x :: r)).1, (wordG (x :: r)).2)) else ([], c :: x :: r) := by rw [wordG]
theorem word_none {u : By} (h : hk u ≠ 1) : wordG u = ([], u) := by
  match u, h with
  | [], _ => rfl
  | [c], h => rw [wordG_one, if_neg (show ¬ kd c [] = 1 from h)]
  | c :: x :: r, h => rw [wordG_two, if_neg (show ¬ kd c (x :: r) = 1 from h)]
theorem word_step {c : UInt8} (hc : c ≠ 92) {s : By} (h : kd c s = 1) : wordG (c :: s) = (c :: (wordG s).1, (wordG s).2) := by
  cases s with
  | nil => rw [wordG_one, if_pos h]; rfl
  | cons x r => rw [wordG_two, if_pos h, if_neg hc]
theorem safe_cons (c : UInt8) (w : By) : safeL (c :: w) = (if escB c = true then [92, c] else [c]) ++ safeL w := by simp [safeL]
theorem word_safe : ∀ (w u : By), hk u ≠ 1 → wordG (safeL w ++ u) = (w, u)
  | [], u, h => word_none h
  | c :: w, u, h => by
    have ih := word_safe w u h
    rw [safe_cons]
    cases he : escB c
    · simp only [Bool.false_eq_true, if_false, List.cons_append, List.nil_append]
      rw [word_step (fun e => by subst e; simp [escB] at he) (kd_plain he _), ih]
    · simp only [if_true, List.cons_append, List.nil_append]
      rw [wordG_two, if_pos (kd_esc (esc_ltr he) _), if_pos rfl, ih]
theorem gap_none {u : By} (h : hk u ≠ 2) (n : Nat) : gapG false n u = (n, u) := by
  cases u with
  | nil => rfl
  | cons c r =>
    have h' : ¬ (blk c || c == 37) = true := fun q => h (kd_two.2 q)
    simp only [Bool.or_eq_true, not_or] at h'
    obtain ⟨h1, h2⟩ := h'
    unfold gapG
    rw [if_neg (by simpa using h2), if_neg (fun e => by subst e; exact h1 (by decide)), if_neg h1]
theorem take_ltr {s u : By} (h : s.all ltr = true) (hu : hdB ltr u = false) : (s ++ u).takeWhile ltr = s ∧ (s ++ u).dropWhile ltr = u := by
  have ha : ∀ a ∈ s, ltr a = true := by simpa using h
  rw [List.takeWhile_append_of_pos ha, List.dropWhile_append_of_pos ha]
  cases u with
  | nil => simp
  | cons x r =>
    have : ltr x = false := hu
    simp [this]
/-- What may stand behind a token's text. -/
def fits (t : Tok) (u : By) : Prop := (t.1 = 1 → hk u ≠ 1) ∧ (gapB t.1 = true → hk u ≠ 2) ∧ (t.1 = 4 → hdB ltr u = false)
theorem may_ways {t : Tok} (h : mayB t = true) : (t.1 = 1 ∧ 0 < t.2.length) ∨ (t.1 = 4 ∧ t.2.all ltr = true ∧ 0 < t.2.length) ∨ (∃ d, t = (7, [d]) ∧ dgt d = true) ∨ t = (2, []) ∨ t = (3, []) ∨ t = (5, []) ∨ t = (6, []) := by
  obtain ⟨k, s⟩ := t
  unfold mayB at h
  simp only at h
  split at h
  · rename_i e; exact .inl ⟨e, by simpa using h⟩
  · split at h
    · rename_i e
      rw [Bool.and_eq_true] at h
      exact .inr (.inl ⟨e, h.1, by simpa using h.2⟩)
    · split at h
      · rename_i e
        rw [Bool.and_eq_true] at h
        obtain ⟨h1, h2⟩ := h
        match s, h1, h2 with
        | [d], _, h2 => exact .inr (.inr (.inl ⟨d, by subst e; rfl, by simpa using h2⟩))
      · rw [Bool.and_eq_true] at h
        obtain ⟨h1, h2⟩ := h
        have : s = [] := by simpa using h2
        subst this
        simp only [Bool.or_eq_true, beq_iff_eq] at h1
        rcases h1 with ((h1 | h1) | h1) | h1 <;> subst h1 <;> simp
theorem one_word {c : UInt8} {r w u : By} (hk1 : kd c r = 1) (h : wordG (c :: r) = (w, u)) : one c r = ((1, w), u) := by unfold one; rw [if_pos hk1, h]
theorem one_tok (t : Tok) (u : By) (hm : mayB t = true) (hf : fits t u) : ∃ c r, tokT t ++ u = c :: r ∧ one c r = (t, u) := by
  rcases may_ways hm with ⟨e, h⟩ | ⟨e, h1, h2⟩ | ⟨d, rfl, hd⟩ | rfl | rfl | rfl | rfl
  · obtain ⟨k, w⟩ := t
    simp only at e h; subst e
    have hw := word_safe w u (hf.1 rfl)
    match w, h with
    | c :: w, _ =>
      have e1 : tokT (1, c :: w) = safeL (c :: w) := rfl
      rw [e1]
      rw [safe_cons] at hw ⊢
      cases he : escB c
      · rw [he] at hw
        simp only [Bool.false_eq_true, if_false, List.cons_append, List.nil_append] at hw ⊢
        exact ⟨c, _, rfl, one_word (kd_plain he _) hw⟩
      · rw [he] at hw
        simp only [if_true, List.cons_append, List.nil_append] at hw ⊢
        exact ⟨92, _, rfl, one_word (kd_esc (esc_ltr he) _) hw⟩
  · obtain ⟨k, s⟩ := t
    simp only at e h1 h2; subst e
    refine ⟨92, s ++ u, rfl, ?_⟩
    match s, h2, h1 with
    | x :: s, _, h1 =>
      have hx : ltr x = true := by simp at h1; exact h1.1
      have k4 : kd 92 (x :: s ++ u) = 4 := by
        unfold kd
        rw [if_neg (by decide), if_pos (by simp [hdB, hx])]
      obtain ⟨a, b⟩ := take_ltr h1 (hf.2.2 rfl)
      unfold one
      rw [if_neg (by omega), if_neg (by omega), if_pos k4, a, b]
  · refine ⟨35, d :: u, rfl, ?_⟩
    have k7 : kd 35 (d :: u) = 7 := by
      unfold kd
      rw [if_neg (by decide), if_neg (by simp), if_neg (by decide), if_neg (by decide), if_pos (by simp [hdB, hd])]
    unfold one
    rw [if_neg (by omega), if_neg (by omega), if_neg (by omega), if_pos k7]
    rfl
  · refine ⟨32, u, rfl, ?_⟩
    have k2 : kd 32 u = 2 := kd_two.2 (by decide)
    have g : gapG false 0 (32 :: u) = (0, u) := by
      unfold gapG
      rw [if_neg (by decide), if_neg (by decide), if_pos (by decide), gap_none (hf.2.1 rfl)]
    unfold one
    rw [if_neg (by omega), if_pos k2, g]
    rfl
  · refine ⟨10, 10 :: u, rfl, ?_⟩
    have k2 : kd 10 (10 :: u) = 2 := kd_two.2 (by decide)
    have g : gapG false 0 (10 :: 10 :: u) = (2, u) := by
      unfold gapG
      rw [if_neg (by decide), if_pos rfl]
      unfold gapG
      rw [if_neg (by decide), if_pos rfl, gap_none (hf.2.1 rfl)]
    unfold one
    rw [if_neg (by omega), if_pos k2, g]
    rfl
  · refine ⟨123, u, rfl, ?_⟩
    have k5 : kd 123 u = 5 := by unfold kd; rw [if_neg (by decide), if_neg (by simp), if_pos rfl]
    unfold one
    rw [k5]; rfl
  · refine ⟨125, u, rfl, ?_⟩
    have k6 : kd 125 u = 6 := by unfold kd; rw [if_neg (by decide), if_neg (by simp), if_neg (by decide), if_pos rfl]
    unfold one
    rw [k6]; rfl
theorem toks_tok (t : Tok) (u : By) (hm : mayB t = true) (hf : fits t u) : toks (tokT t ++ u) = t :: toks u := by
  obtain ⟨c, r, e, h⟩ := one_tok t u hm hf
  rw [e, toks_cons, h]
/-- How a token's text begins. -/
theorem head_tok {t : Tok} (hm : mayB t = true) (u : By) : hk (tokT t ++ u) = (if t.1 = 3 then 2 else t.1) ∧ (hdB ltr (tokT t ++ u) = true → t.1 = 1 ∧ hdB ltr t.2 = true) := by
  rcases may_ways hm with ⟨e, h⟩ | ⟨e, h1, h2⟩ | ⟨d, rfl, hd⟩ | rfl | rfl | rfl | rfl
  · obtain ⟨k, w⟩ := t
    simp only at e h; subst e
    match w, h with
    | c :: w, _ =>
      rw [show tokT (1, c :: w) = safeL (c :: w) from rfl, safe_cons]
      cases he : escB c
      · simp only [Bool.false_eq_true, if_false, List.cons_append, List.nil_append]
        exact ⟨kd_plain he _, fun q => ⟨by first | rfl | trivial, q⟩⟩
      · simp only [if_true, List.cons_append, List.nil_append]
        exact ⟨kd_esc (esc_ltr he) _, fun q => by simp [hdB, ltr] at q⟩
  · obtain ⟨k, s⟩ := t
    simp only at e h1 h2; subst e
    match s, h2, h1 with
    | x :: s, _, h1 =>
      have hx : ltr x = true := by simp at h1; exact h1.1
      refine ⟨?_, fun q => ?_⟩
      · show kd 92 (x :: s ++ u) = 4
        unfold kd
        rw [if_neg (by decide), if_pos (by simp [hdB, hx])]
      · have : ltr 92 = true := q
        exact absurd this (by decide)
  · refine ⟨?_, fun q => absurd (show ltr 35 = true from q) (by decide)⟩
    show kd 35 (d :: u) = 7
    unfold kd
    rw [if_neg (by decide), if_neg (by simp), if_neg (by decide), if_neg (by decide), if_pos (by simp [hdB, hd])]
  · exact ⟨kd_two.2 (by decide), fun q => absurd (show ltr 32 = true from q) (by decide)⟩
  · exact ⟨kd_two.2 (by decide), fun q => absurd (show ltr 10 = true from q) (by decide)⟩
  · refine ⟨?_, fun q => absurd (show ltr 123 = true from q) (by decide)⟩
    show kd 123 u = 5
    unfold kd; rw [if_neg (by decide), if_neg (by simp), if_pos rfl]
  · refine ⟨?_, fun q => absurd (show ltr 125 = true from q) (by decide)⟩
    show kd 125 u = 6
    unfold kd; rw [if_neg (by decide), if_neg (by simp), if_neg (by decide), if_pos rfl]
theorem fits_next {a b : Tok} (h : nextB a b = true) (hb : mayB b = true) (u : By) : fits a (tokT b ++ u) := by
  obtain ⟨h1, h2⟩ := head_tok hb u
  unfold nextB at h
  simp only [Bool.not_eq_true', Bool.or_eq_false_iff] at h
  obtain ⟨⟨n1, n2⟩, n3⟩ := h
  refine ⟨fun e q => ?_, fun e q => ?_, fun e => ?_⟩
  · rw [h1] at q
    have : b.1 = 1 := by split at q <;> omega
    simp [e, this] at n1
  · rw [h1] at q
    have : gapB b.1 = true := by
      unfold gapB
      split at q
      · rename_i h3; simp [h3]
      · simp [q]
    simp [e, this] at n2
  · cases hl : hdB ltr (tokT b ++ u)
    · rfl
    · obtain ⟨e1, e2⟩ := h2 hl
      simp [e, e1, e2] at n3
theorem fits_end (t : Tok) : fits t [] := ⟨fun _ => by simp [hk], fun _ => by simp [hk], fun _ => rfl⟩
/-- Right tokens are those of their text. -/
theorem toks_text : ∀ (l : List Tok), rightL l = true → toks (textL l) = l
  | [], _ => rfl
  | [a], h => by
    have : textL [a] = tokT a ++ [] := by simp [textL]
    rw [this, toks_tok a [] h (fits_end a), toks_nil]
  | a :: b :: r, h => by
    unfold rightL at h
    rw [Bool.and_eq_true, Bool.and_eq_true] at h
    obtain ⟨⟨h1, h2⟩, h3⟩ := h
    have hb : mayB b = true := by
      cases r with
      | nil => exact h3
      | cons c r => unfold rightL at h3; rw [Bool.and_eq_true, Bool.and_eq_true] at h3; exact h3.1.1
    have ih := toks_text (b :: r) h3
    have e : textL (a :: b :: r) = tokT a ++ textL (b :: r) := by simp [textL]
    have e2 : textL (b :: r) = tokT b ++ textL r := by simp [textL]
    rw [e, toks_tok a _ h1 (by rw [e2]; exact fits_next h2 hb _), ih]

/-! ### the tokens of a text are right -/
theorem word_stop : ∀ (f : Nat) (s : By), s.length ≤ f → hk (wordG s).2 ≠ 1
  | _, [], _ => by simp [wordG, hk]
  | _, [c], _ => by
    rw [wordG_one]
    split
    · simp [hk]
    · rename_i h; exact h
  | 0, c :: x :: r, h => by simp at h
  | f + 1, c :: x :: r, h => by
    simp at h
    rw [wordG_two]
    split
    · split
      · exact word_stop f r (by omega)
      · exact word_stop f (x :: r) (by simp; omega)
    · rename_i h; exact h
theorem gap_stop : ∀ (s : By) (b : Bool) (n : Nat), hk (gapG b n s).2 ≠ 2
  | [], b, n => by cases b <;> simp [gapG, hk]
  | c :: r, true, n => by
    unfold gapG
    split
    · exact gap_stop r false n
    · exact gap_stop r true n
  | c :: r, false, n => by
    unfold gapG
    split
    · exact gap_stop r true n
    · rename_i h1
      split
      · exact gap_stop r false (n + 1)
      · split
        · exact gap_stop r false n
        · rename_i h2 h3
          intro q
          have := kd_two.1 (show kd c r = 2 from q)
          simp [h3, h1] at this
theorem kd_ways (c : UInt8) (r : By) : kd c r = 2 ∨ (kd c r = 4 ∧ c = 92 ∧ hdB ltr r = true) ∨ kd c r = 5 ∨ kd c r = 6 ∨ (kd c r = 7 ∧ c = 35 ∧ hdB dgt r = true) ∨ kd c r = 1 := by
  unfold kd
  split
  · simp
  · split
    · rename_i h; simp at h; simp [h]
    · split
      · simp
      · split
        · simp
        · split
          · rename_i h; simp at h; simp [h]
          · simp
theorem one_head {c : UInt8} {r : By} (h : kd c r = 1) : 0 < (wordG (c :: r)).1.length ∧ (ltr c = false → hdB ltr (wordG (c :: r)).1 = false) := by
  cases r with
  | nil => rw [wordG_one, if_pos h]; exact ⟨by simp, fun q => q⟩
  | cons x r =>
    rw [wordG_two, if_pos h]
    split
    · rename_i e
      subst e
      refine ⟨by simp, fun _ => ?_⟩
      show ltr x = false
      cases hl : ltr x
      · rfl
      · unfold kd at h
        rw [if_neg (by decide), if_pos (by simp [hdB, hl])] at h
        cases h
    · exact ⟨by simp, fun q => q⟩
theorem hd_drop (p : UInt8 → Bool) : ∀ (s : By), hdB p (s.dropWhile p) = false
  | [] => rfl
  | x :: r => by
    rw [List.dropWhile_cons]
    cases hp : p x
    · simp [hdB, hp]
    · simp only [if_true]; exact hd_drop p r
theorem all_take (p : UInt8 → Bool) : ∀ (s : By), (s.takeWhile p).all p = true
  | [] => rfl
  | x :: r => by
    rw [List.takeWhile_cons]
    cases hp : p x
    · simp
    · simp only [if_true, List.all_cons, hp, Bool.true_and]; exact all_take p r
theorem one_is (c : UInt8) (r : By) : mayB (one c r).1 = true ∧ fits (one c r).1 (one c r).2 ∧ ((one c r).1.1 = 1 → kd c r = 1 ∧ (ltr c = false → hdB ltr (one c r).1.2 = false)) ∧ (gapB (one c r).1.1 = true → kd c r = 2) := by
  rcases kd_ways c r with h | ⟨h, hc, hr⟩ | h | h | ⟨h, hc, hr⟩ | h
  · have e : one c r = ((if 2 ≤ (gapG false 0 (c :: r)).1 then 3 else 2, []), (gapG false 0 (c :: r)).2) := by unfold one; rw [if_neg (by omega), if_pos h]
    have hs := gap_stop (c :: r) false 0
    rw [e]
    by_cases q : 2 ≤ (gapG false 0 (c :: r)).1
    · rw [if_pos q]
      exact ⟨rfl, ⟨fun x => (by cases x), fun _ => hs, fun x => (by cases x)⟩, fun x => (by cases x), fun _ => h⟩
    · rw [if_neg q]
      exact ⟨rfl, ⟨fun x => (by cases x), fun _ => hs, fun x => (by cases x)⟩, fun x => (by cases x), fun _ => h⟩
  · have e : one c r = ((4, r.takeWhile ltr), r.dropWhile ltr) := by unfold one; rw [if_neg (by omega), if_neg (by omega), if_pos h]
    rw [e]
    refine ⟨?_, ⟨fun x => (by cases x), fun x => (by cases x), fun _ => hd_drop ltr r⟩, fun x => (by cases x), fun x => (by cases x)⟩
    show ((r.takeWhile ltr).all ltr && decide (0 < (r.takeWhile ltr).length)) = true
    rw [all_take]
    match r, hr with
    | x :: r, hr =>
      have hx : ltr x = true := hr
      rw [List.takeWhile_cons, hx]
      simp
  · have e : one c r = ((5, []), r) := by unfold one; rw [h]; rfl
    rw [e]
    exact ⟨rfl, ⟨fun x => (by cases x), fun x => (by cases x), fun x => (by cases x)⟩, fun x => (by cases x), fun x => (by cases x)⟩
  · have e : one c r = ((6, []), r) := by unfold one; rw [h]; rfl
    rw [e]
    exact ⟨rfl, ⟨fun x => (by cases x), fun x => (by cases x), fun x => (by cases x)⟩, fun x => (by cases x), fun x => (by cases x)⟩
  · have e : one c r = ((7, r.take 1), r.drop 1) := by unfold one; rw [h]; rfl
    rw [e]
    match r, hr with
    | x :: r, hr =>
      have hx : dgt x = true := hr
      refine ⟨?_, ⟨fun x => (by cases x), fun x => (by cases x), fun x => (by cases x)⟩, fun x => (by cases x), fun x => (by cases x)⟩
      show (decide (((x :: r).take 1).length = 1) && ((x :: r).take 1).all dgt) = true
      simp [hx]
  · have e : one c r = ((1, (wordG (c :: r)).1), (wordG (c :: r)).2) := by unfold one; rw [if_pos h]
    obtain ⟨a, b⟩ := one_head h
    rw [e]
    exact ⟨by show decide (0 < (wordG (c :: r)).1.length) = true; simpa using a, ⟨fun _ => word_stop _ _ (Nat.le_refl _), fun x => (by cases x), fun x => (by cases x)⟩, fun _ => ⟨h, b⟩, fun x => (by cases x)⟩
theorem right_lex : ∀ (f : Nat) (s : By), s.length ≤ f → rightL (toks s) = true
  | _, [], _ => rfl
  | 0, c :: r, h => by simp at h
  | f + 1, c :: r, h => by
    rw [toks_cons]
    obtain ⟨a1, a2, _, _⟩ := one_is c r
    have hl := one_less c r
    simp at h
    have ih := right_lex f (one c r).2 (by omega)
    generalize hu : (one c r).2 = u at *
    match u with
    | [] => rw [toks_nil]; exact a1
    | x :: u =>
      rw [toks_cons] at ih ⊢
      unfold rightL
      rw [a1, ih, Bool.true_and, Bool.and_true]
      obtain ⟨b1, _, b3, b4⟩ := one_is x u
      generalize (one c r).1 = t at *
      generalize (one x u).1 = t' at *
      unfold nextB
      simp only [Bool.not_eq_true', Bool.or_eq_false_iff]
      refine ⟨⟨?_, ?_⟩, ?_⟩
      · by_cases q : t.1 = 1 ∧ t'.1 = 1
        · exact absurd (b3 q.2).1 (a2.1 q.1)
        · simpa [Bool.and_eq_false_iff] using fun e1 => by intro e2; exact q ⟨e1, e2⟩
      · cases q1 : gapB t.1
        · rfl
        · cases q2 : gapB t'.1
          · rfl
          · exact absurd (b4 q2) (a2.2.1 q1)
      · by_cases q : t.1 = 4 ∧ t'.1 = 1
        · have hx : ltr x = false := a2.2.2 q.1
          rw [(b3 q.2).2 hx]; simp
        · by_cases e1 : t.1 = 4
          · have e2 : ¬ t'.1 = 1 := fun e2 => q ⟨e1, e2⟩
            simp [e2]
          · simp [e1]
theorem toks_right (s : By) : rightL (toks s) = true := right_lex _ s (Nat.le_refl _)
theorem toks_back (s : By) : toks (textL (toks s)) = toks s := toks_text _ (toks_right s)
theorem right_iff (l : List Tok) : (toks (textL l) = l) ↔ rightL l = true := ⟨fun h => by rw [← h]; exact toks_right _, toks_text l⟩
theorem toks_empty (s : By) : toks s = [] ↔ s = [] := by
  cases s with
  | nil => simp [toks_nil]
  | cons c r => rw [toks_cons]; simp

/-! ### two texts with an empty line between -/
theorem hd_app {p : UInt8 → Bool} (hp : p 10 = false) (r u : By) : hdB p (r ++ 10 :: u) = hdB p r := by
  cases r with
  | nil => exact hp
  | cons x r => rfl
theorem kd_app (c : UInt8) (r u : By) : kd c (r ++ 10 :: u) = kd c r := by
  unfold kd
  rw [hd_app (by decide) r u, hd_app (by decide) r u]
def endB (s : By) : Prop := s.getLast? ≠ some 92
theorem word_app (u : By) : ∀ (f : Nat) (s : By), s.length ≤ f → endB s → wordG (s ++ 10 :: u) = ((wordG s).1, (wordG s).2 ++ 10 :: u)
  | _, [], _, _ => word_none (show kd 10 u ≠ 1 by rw [kd_two.2 (by decide)]; omega)
  | _, [c], _, he => by
    have hc : c ≠ 92 := fun e => by subst e; exact he rfl
    show wordG (c :: 10 :: u) = _
    have hka := kd_app c [] u
    rw [List.nil_append] at hka
    rw [wordG_two, wordG_one, hka]
    by_cases h : kd c [] = 1
    · rw [if_pos h, if_pos h, if_neg hc, word_none (show hk (10 :: u) ≠ 1 from (show kd 10 u ≠ 1 by rw [kd_two.2 (by decide)]; omega))]
      rfl
    · rw [if_neg h, if_neg h]; rfl
  | 0, c :: x :: r, h, _ => by simp at h
  | f + 1, c :: x :: r, h, he => by
    simp at h
    have hk := kd_app c (x :: r) u
    rw [List.cons_append, List.cons_append, wordG_two, wordG_two]
    rw [List.cons_append] at hk
    rw [hk]
    by_cases q : kd c (x :: r) = 1
    · rw [if_pos q, if_pos q]
      by_cases e : c = 92
      · rw [if_pos e, if_pos e, word_app u f r (by omega) (by
          cases r with
          | nil => simp [endB]
          | cons y r => simpa [endB] using he)]
      · have := word_app u f (x :: r) (by simp; omega) (by simpa [endB] using he)
        rw [List.cons_append] at this
        rw [if_neg e, if_neg e, this]
    · rw [if_neg q, if_neg q]; rfl
theorem gap_app (v : By) : ∀ (s : By) (b : Bool) (n : Nat), (gapG b n s).2 ≠ [] → gapG b n (s ++ v) = ((gapG b n s).1, (gapG b n s).2 ++ v)
  | [], b, n, h => by cases b <;> simp [gapG] at h
  | c :: r, true, n, h => by
    rw [List.cons_append]
    unfold gapG at h ⊢
    split at h
    · rename_i e; rw [if_pos e, if_pos e]; exact gap_app v r false n h
    · rename_i e; rw [if_neg e, if_neg e]; exact gap_app v r true n h
  | c :: r, false, n, h => by
    rw [List.cons_append]
    unfold gapG at h ⊢
    split at h
    · rename_i e; rw [if_pos e, if_pos e]; exact gap_app v r true n h
    · rename_i e
      rw [if_neg e, if_neg e]
      split at h
      · rename_i e2; rw [if_pos e2, if_pos e2]; exact gap_app v r false (n + 1) h
      · rename_i e2
        rw [if_neg e2, if_neg e2]
        split at h
        · rename_i e3; rw [if_pos e3, if_pos e3]; exact gap_app v r false n h
        · rename_i e3; rw [if_neg e3, if_neg e3]; rfl
theorem ltr_app (u : By) : ∀ (r : By), (r ++ 10 :: u).takeWhile ltr = r.takeWhile ltr ∧ (r ++ 10 :: u).dropWhile ltr = r.dropWhile ltr ++ 10 :: u
  | [] => by
    have : ltr 10 = false := by decide
    simp [this]
  | x :: r => by
    obtain ⟨a, b⟩ := ltr_app u r
    rw [List.cons_append, List.takeWhile_cons, List.takeWhile_cons, List.dropWhile_cons, List.dropWhile_cons, a, b]
    cases ltr x <;> simp
theorem one_app (c : UInt8) (r u : By) (he : endB (c :: r)) (hg : kd c r = 2 → (one c r).2 ≠ []) : one c (r ++ 10 :: u) = ((one c r).1, (one c r).2 ++ 10 :: u) := by
  have hk := kd_app c r u
  rcases kd_ways c r with h | ⟨h, hc, hr⟩ | h | h | ⟨h, hc, hr⟩ | h
  · have e : one c r = ((if 2 ≤ (gapG false 0 (c :: r)).1 then 3 else 2, []), (gapG false 0 (c :: r)).2) := by unfold one; rw [if_neg (by omega), if_pos h]
    have e2 : one c (r ++ 10 :: u) = ((if 2 ≤ (gapG false 0 (c :: (r ++ 10 :: u))).1 then 3 else 2, []), (gapG false 0 (c :: (r ++ 10 :: u))).2) := by unfold one; rw [if_neg (by omega), if_pos (hk.trans h)]
    have hn := hg h
    rw [e] at hn ⊢
    have := gap_app (10 :: u) (c :: r) false 0 hn
    rw [List.cons_append] at this
    rw [e2, this]
  · have e : one c r = ((4, r.takeWhile ltr), r.dropWhile ltr) := by unfold one; rw [if_neg (by omega), if_neg (by omega), if_pos h]
    have e2 : one c (r ++ 10 :: u) = ((4, (r ++ 10 :: u).takeWhile ltr), (r ++ 10 :: u).dropWhile ltr) := by unfold one; rw [if_neg (by omega), if_neg (by omega), if_pos (hk.trans h)]
    obtain ⟨a, b⟩ := ltr_app u r
    rw [e, e2, a, b]
  · have e : one c r = ((5, []), r) := by unfold one; rw [h]; rfl
    have e2 : one c (r ++ 10 :: u) = ((5, []), r ++ 10 :: u) := by unfold one; rw [hk, h]; rfl
    rw [e, e2]
  · have e : one c r = ((6, []), r) := by unfold one; rw [h]; rfl
    have e2 : one c (r ++ 10 :: u) = ((6, []), r ++ 10 :: u) := by unfold one; rw [hk, h]; rfl
    rw [e, e2]
  · have e : one c r = ((7, r.take 1), r.drop 1) := by unfold one; rw [h]; rfl
    have e2 : one c (r ++ 10 :: u) = ((7, (r ++ 10 :: u).take 1), (r ++ 10 :: u).drop 1) := by unfold one; rw [hk, h]; rfl
    rw [e, e2]
    match r, hr with
    | x :: r, _ => rfl
  · have e : one c r = ((1, (wordG (c :: r)).1), (wordG (c :: r)).2) := by unfold one; rw [if_pos h]
    have e2 : one c (r ++ 10 :: u) = ((1, (wordG (c :: (r ++ 10 :: u))).1), (wordG (c :: (r ++ 10 :: u))).2) := by unfold one; rw [if_pos (hk.trans h)]
    have := word_app u _ (c :: r) (Nat.le_refl _) he
    rw [List.cons_append] at this
    rw [e, e2, this]
theorem gap_suffix : ∀ (s : By) (b : Bool) (n : Nat), (gapG b n s).2 <:+ s
  | [], b, n => by cases b <;> simp [gapG]
  | c :: r, true, n => by
    unfold gapG
    split
    · exact (gap_suffix r false n).trans (List.suffix_cons c r)
    · exact (gap_suffix r true n).trans (List.suffix_cons c r)
  | c :: r, false, n => by
    unfold gapG
    split
    · exact (gap_suffix r true n).trans (List.suffix_cons c r)
    · split
      · exact (gap_suffix r false (n + 1)).trans (List.suffix_cons c r)
      · split
        · exact (gap_suffix r false n).trans (List.suffix_cons c r)
        · exact List.suffix_refl _
theorem word_suffix : ∀ (f : Nat) (s : By), s.length ≤ f → (wordG s).2 <:+ s
  | _, [], _ => by simp [wordG]
  | _, [c], _ => by rw [wordG_one]; split <;> simp
  | 0, c :: x :: r, h => by simp at h
  | f + 1, c :: x :: r, h => by
    simp at h
    rw [wordG_two]
    split
    · split
      · exact ((word_suffix f r (by omega)).trans (List.suffix_cons x r)).trans (List.suffix_cons c _)
      · exact (word_suffix f (x :: r) (by simp; omega)).trans (List.suffix_cons c _)
    · exact List.suffix_refl _
theorem one_suffix (c : UInt8) (r : By) : (one c r).2 <:+ c :: r := by
  unfold one
  split
  · exact word_suffix _ _ (Nat.le_refl _)
  · split
    · exact gap_suffix _ _ _
    · split
      · exact (List.dropWhile_suffix _).trans (List.suffix_cons c r)
      · split
        · exact (List.drop_suffix _ _).trans (List.suffix_cons c r)
        · exact List.suffix_cons c r
theorem end_suffix {v s : By} (h : v <:+ s) (he : endB s) : endB v := by
  obtain ⟨p, rfl⟩ := h
  unfold endB at *
  rw [List.getLast?_append] at he
  cases hg : v.getLast? with
  | none => simp
  | some x => rw [hg] at he; simpa using he
def lastGap (l : List Tok) : Bool := match l.getLast? with | some t => gapB t.1 | none => false
theorem toks_app (u : By) : ∀ (f : Nat) (s : By), s.length ≤ f → endB s → lastGap (toks s) = false → toks (s ++ 10 :: u) = toks s ++ toks (10 :: u)
  | _, [], _, _, _ => rfl
  | 0, c :: r, h, _, _ => by simp at h
  | f + 1, c :: r, h, he, hl => by
    simp at h
    rw [toks_cons] at hl
    have hg : kd c r = 2 → (one c r).2 ≠ [] := fun k e => by
      rw [e, toks_nil] at hl
      have : gapB (one c r).1.1 = true := by
        unfold one
        rw [if_neg (by omega), if_pos k]
        show gapB (if 2 ≤ (gapG false 0 (c :: r)).1 then 3 else 2) = true
        split <;> rfl
      simp [lastGap, this] at hl
    rw [List.cons_append, toks_cons, one_app c r u he hg, toks_cons]
    have hle := one_less c r
    by_cases hv : (one c r).2 = []
    · rw [hv, toks_nil]; rfl
    · have he2 := end_suffix (one_suffix c r) he
      have hl2 : lastGap (toks (one c r).2) = false := by
        have hne : toks (one c r).2 ≠ [] := fun e => hv ((toks_empty _).1 e)
        unfold lastGap at hl ⊢
        rw [List.getLast?_cons] at hl
        cases hg : (toks (one c r).2).getLast? with
        | none => rfl
        | some x => rw [hg] at hl; exact hl
      rw [toks_app u f _ (by omega) he2 hl2]
      rfl
theorem toks_join {s t : By} (he : endB s) (hl : lastGap (toks s) = false) (ht : hk t ≠ 2) : toks (s ++ 10 :: 10 :: t) = toks s ++ (3, []) :: toks t := by
  rw [toks_app _ _ s (Nat.le_refl _) he hl]
  have := toks_tok (3, []) t rfl ⟨fun x => (by cases x), fun _ => ht, fun x => (by cases x)⟩
  rw [show tokT (3, []) ++ t = 10 :: 10 :: t from rfl] at this
  rw [this]
theorem first_gap {c : UInt8} {r : By} (h : gapB (one c r).1.1 = false) : hk (c :: r) ≠ 2 := fun k => by
  have k' : kd c r = 2 := k
  unfold one at h
  rw [if_neg (by omega), if_pos k'] at h
  revert h
  show gapB (if 2 ≤ (gapG false 0 (c :: r)).1 then 3 else 2) = false → False
  split <;> intro h <;> cases h

/-! ### blanks for tabs -/
def sp (k : Nat) (c : UInt8) : By := if c = 9 then List.replicate (k + 1) 32 else [c]
def tabs (k : Nat) (s : By) : By := s.flatMap (sp k)
theorem tabs_cons (k : Nat) (c : UInt8) (r : By) : tabs k (c :: r) = sp k c ++ tabs k r := by simp [tabs]
theorem tabs_other (k : Nat) {c : UInt8} (h : c ≠ 9) (r : By) : tabs k (c :: r) = c :: tabs k r := by rw [tabs_cons]; unfold sp; rw [if_neg h]; rfl
theorem tabs_tab (k : Nat) (r : By) : tabs k (9 :: r) = 32 :: (List.replicate k 32 ++ tabs k r) := by rw [tabs_cons]; unfold sp; rw [if_pos rfl, List.replicate_succ]; rfl
theorem hd_tabs {p : UInt8 → Bool} (h9 : p 9 = false) (h32 : p 32 = false) (k : Nat) (s : By) : hdB p (tabs k s) = hdB p s := by
  cases s with
  | nil => rfl
  | cons c r =>
    by_cases h : c = 9
    · subst h; rw [tabs_tab]; show p 32 = p 9; rw [h9, h32]
    · rw [tabs_other k h]; rfl
theorem kd_tabs (c : UInt8) (k : Nat) (r : By) : kd c (tabs k r) = kd c r := by
  unfold kd
  rw [hd_tabs (by decide) (by decide), hd_tabs (by decide) (by decide)]
theorem word_tabs (k : Nat) : ∀ (s : By), (∀ c ∈ s, c ≠ 92) → wordG (tabs k s) = ((wordG s).1, tabs k (wordG s).2)
  | [], _ => rfl
  | c :: r, h => by
    have hc : c ≠ 92 := h c List.mem_cons_self
    have ih := word_tabs k r (fun x hx => h x (List.mem_cons_of_mem _ hx))
    by_cases h9 : c = 9
    · subst h9
      rw [word_none (u := 9 :: r) (show kd 9 r ≠ 1 by rw [kd_two.2 (by decide)]; omega), tabs_tab, word_none (u := 32 :: (List.replicate k 32 ++ tabs k r)) (show kd 32 (List.replicate k 32 ++ tabs k r) ≠ 1 by rw [kd_two.2 (by decide)]; omega)]
    · rw [tabs_other k h9]
      by_cases q : kd c r = 1
      · rw [word_step hc q, word_step hc ((kd_tabs c k r).trans q), ih]
      · rw [word_none (u := c :: r) q, word_none (u := c :: tabs k r) (show kd c (tabs k r) ≠ 1 by rw [kd_tabs]; exact q), tabs_other k h9]
theorem gap_spaces (b : Bool) (n : Nat) (v : By) : ∀ (k : Nat), gapG b n (List.replicate k 32 ++ v) = gapG b n v
  | 0 => rfl
  | k + 1 => by
    rw [List.replicate_succ, List.cons_append]
    cases b
    · conv => lhs; unfold gapG
      rw [if_neg (by decide), if_neg (by decide), if_pos (by decide)]
      exact gap_spaces false n v k
    · conv => lhs; unfold gapG
      rw [if_neg (by decide)]
      exact gap_spaces true n v k
theorem gap_tabs (k : Nat) : ∀ (s : By) (b : Bool) (n : Nat), gapG b n (tabs k s) = ((gapG b n s).1, tabs k (gapG b n s).2)
  | [], b, n => by cases b <;> rfl
  | c :: r, b, n => by
    by_cases h9 : c = 9
    · subst h9
      have e : tabs k (9 :: r) = List.replicate (k + 1) 32 ++ tabs k r := by rw [tabs_tab, List.replicate_succ]; rfl
      rw [e, gap_spaces, gap_tabs k r b n]
      cases b
      · have : gapG false n (9 :: r) = gapG false n r := by
          conv => lhs; unfold gapG
          rw [if_neg (by decide), if_neg (by decide), if_pos (by decide)]
        rw [this]
      · have : gapG true n (9 :: r) = gapG true n r := by
          conv => lhs; unfold gapG
          rw [if_neg (by decide)]
        rw [this]
    · rw [tabs_other k h9]
      cases b
      · unfold gapG
        split
        · exact gap_tabs k r true n
        · split
          · exact gap_tabs k r false (n + 1)
          · split
            · exact gap_tabs k r false n
            · rw [tabs_other k h9]
      · unfold gapG
        split
        · exact gap_tabs k r false n
        · exact gap_tabs k r true n
theorem toks_tabs (k : Nat) : ∀ (f : Nat) (s : By), s.length ≤ f → (∀ c ∈ s, c ≠ 92) → toks (tabs k s) = toks s
  | _, [], _, _ => rfl
  | 0, c :: r, h, _ => by simp at h
  | f + 1, c :: r, h, hb => by
    simp at h
    have hless := one_less c r
    have hsub : ∀ x ∈ (one c r).2, x ≠ 92 := fun x hx => hb x ((one_suffix c r).subset hx)
    have ih := toks_tabs k f (one c r).2 (by omega) hsub
    by_cases h9 : c = 9
    · subst h9
      have k2 : kd 9 r = 2 := kd_two.2 (by decide)
      have hg := gap_tabs k (9 :: r) false 0
      have e : one 9 r = ((if 2 ≤ (gapG false 0 (9 :: r)).1 then 3 else 2, []), (gapG false 0 (9 :: r)).2) := by unfold one; rw [if_neg (by omega), if_pos k2]
      rw [tabs_tab] at hg ⊢
      have k3 : kd 32 (List.replicate k 32 ++ tabs k r) = 2 := kd_two.2 (by decide)
      have e2 : one 32 (List.replicate k 32 ++ tabs k r) = ((if 2 ≤ (gapG false 0 (9 :: r)).1 then 3 else 2, []), tabs k (gapG false 0 (9 :: r)).2) := by
        unfold one; rw [if_neg (by omega), if_pos k3, hg]
      rw [toks_cons, toks_cons, e2, e]
      rw [e] at ih
      rw [ih]
    · have key : one c (tabs k r) = ((one c r).1, tabs k (one c r).2) := by
        have hk := kd_tabs c k r
        rcases kd_ways c r with q | ⟨_, hc, _⟩ | q | q | ⟨q, hc, hr⟩ | q
        · have hg := gap_tabs k (c :: r) false 0
          rw [tabs_other k h9] at hg
          have e : one c r = ((if 2 ≤ (gapG false 0 (c :: r)).1 then 3 else 2, []), (gapG false 0 (c :: r)).2) := by unfold one; rw [if_neg (by omega), if_pos q]
          have e2 : one c (tabs k r) = ((if 2 ≤ (gapG false 0 (c :: tabs k r)).1 then 3 else 2, []), (gapG false 0 (c :: tabs k r)).2) := by unfold one; rw [if_neg (by omega), if_pos (hk.trans q)]
          rw [e, e2, hg]
        · exact absurd hc (hb c List.mem_cons_self)
        · have e : one c r = ((5, []), r) := by unfold one; rw [q]; rfl
          have e2 : one c (tabs k r) = ((5, []), tabs k r) := by unfold one; rw [hk, q]; rfl
          rw [e, e2]
        · have e : one c r = ((6, []), r) := by unfold one; rw [q]; rfl
          have e2 : one c (tabs k r) = ((6, []), tabs k r) := by unfold one; rw [hk, q]; rfl
          rw [e, e2]
        · have e : one c r = ((7, r.take 1), r.drop 1) := by unfold one; rw [q]; rfl
          have e2 : one c (tabs k r) = ((7, (tabs k r).take 1), (tabs k r).drop 1) := by unfold one; rw [hk, q]; rfl
          rw [e, e2]
          match r, hr with
          | x :: r, hr =>
            have hx : x ≠ 9 := fun e => by subst e; revert hr; show dgt 9 = true → False; decide
            rw [tabs_other k hx]; rfl
        · have hw := word_tabs k (c :: r) hb
          rw [tabs_other k h9] at hw
          have e : one c r = ((1, (wordG (c :: r)).1), (wordG (c :: r)).2) := by unfold one; rw [if_pos q]
          have e2 : one c (tabs k r) = ((1, (wordG (c :: tabs k r)).1), (wordG (c :: tabs k r)).2) := by unfold one; rw [if_pos (hk.trans q)]
          rw [e, e2, hw]
      rw [tabs_other k h9, toks_cons, toks_cons, key, ih]

/-! ### words of letters -/
theorem ltr_plain {c : UInt8} (h : ltr c = true) : escB c = false := by
  cases he : escB c
  · rfl
  · rw [esc_ltr he] at h; cases h
theorem safe_letters : ∀ (w : By), w.all ltr = true → safeL w = w
  | [], _ => rfl
  | c :: w, h => by
    simp only [List.all_cons, Bool.and_eq_true] at h
    rw [safe_cons, ltr_plain h.1, safe_letters w h.2]; rfl
theorem plain_word {w : By} (h : w.all ltr = true) (h0 : w ≠ []) : toks w = [(1, w)] := by
  have hr : rightL [(1, w)] = true := by
    show decide (0 < w.length) = true
    simpa using List.length_pos_iff.2 h0
  have := toks_text [(1, w)] hr
  rwa [show textL [(1, w)] = w by simp [textL, tokT, safe_letters w h]] at this
theorem plain_command {w : By} (h : w.all ltr = true) (h0 : w ≠ []) : toks (92 :: w) = [(4, w)] := by
  have hr : rightL [(4, w)] = true := by
    show (w.all ltr && decide (0 < w.length)) = true
    rw [h, Bool.true_and]
    simpa using List.length_pos_iff.2 h0
  have := toks_text [(4, w)] hr
  rwa [show textL [(4, w)] = 92 :: w by simp [textL, tokT]] at this
theorem plain_braces {w : By} (h : w.all ltr = true) (h0 : w ≠ []) : toks (123 :: (w ++ [32, 125])) = [(5, []), (1, w), (2, []), (6, [])] := by
  have hm : mayB (1, w) = true := by
    show decide (0 < w.length) = true
    simpa using List.length_pos_iff.2 h0
  have hr : rightL [(5, []), (1, w), (2, []), (6, [])] = true := by
    simp [rightL, hm, nextB, gapB]
    exact ⟨rfl, rfl, rfl⟩
  have := toks_text _ hr
  rwa [show textL [(5, []), (1, w), (2, []), (6, [])] = 123 :: (w ++ [32, 125]) by simp [textL, tokT, safe_letters w h]] at this
end Go.Proofs.YtckldeabbkdbjaaDoor
