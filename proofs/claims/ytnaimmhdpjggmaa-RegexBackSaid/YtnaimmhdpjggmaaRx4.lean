/- How a text is read into an expression, as plain functions, and that what is written of a tree is read as it. No dump is read here. -/
import Derived.Test.YtnaimmhdpjggmaaRx3
namespace Go.Proofs.Ytnaimmhdpjggmaa.U

/-- What a reader knows. -/
structure PS where
  left : Wd
  long : Bool
  nodes : List Nd
  over : Bool
deriving DecidableEq

def skipW (s : Wd) : Wd := s.dropWhile fun c => blankI c.toNat
/-- A mark is taken, if it stands there: whether, and what is left. -/
def takeB (c : UInt8) (s : Wd) : Bool := decide ((skipW s).head? = some c)
def takeR (c : UInt8) (s : Wd) : Wd := if takeB c s = true then (skipW s).tail else skipW s
def addS (st : PS) (ns : List Nd) : PS := if st.over = true ∨ 1024 < st.nodes.length + ns.length then { st with over := true } else { st with nodes := st.nodes ++ ns }
def shiftN (by' : Int) (n : Nd) : Nd := if n.op = 3 ∨ n.op = 4 then { n with a := n.a + by', b := n.b + by' } else if n.op = 5 then { n with a := n.a + by' } else n
def copyS (st : PS) (ns : List Nd) (by' : Int) : PS := if st.over = true then st else addS st (ns.map (shiftN by'))
def lastS (st : PS) : Int := (st.nodes.length : Int) - 1
def pairS (st : PS) (kind a : Int) : PS := addS st [⟨kind, [], a, lastS st⟩]
def starS (st : PS) : PS := addS st [⟨5, [], lastS st, 0⟩]
def wordW (s : Wd) : Wd := s.takeWhile fun c => namedI c.toNat
def isLet (s : Wd) : Bool := match s with
  | [] => false
  | x :: _ => letterI x.toNat
def wordS (st : PS) : Bool × PS :=
  if isLet (skipW st.left) = true then (true, { addS { st with left := skipW st.left, long := st.long || decide (64 < (wordW (skipW st.left)).length) } [⟨2, wordW (skipW st.left), 0, 0⟩] with left := (skipW st.left).drop (wordW (skipW st.left)).length })
  else (false, { st with left := skipW st.left })
def takeS (c : UInt8) (st : PS) : PS := { st with left := takeR c st.left }
def atomS (ex : PS → Bool × PS) (st : PS) : Bool × PS :=
  if takeB 33 st.left = true then (true, addS (takeS 33 st) [⟨0, [], 0, 0⟩])
  else if takeB 40 (takeS 33 st).left = true then
    (if takeB 41 (takeS 40 (takeS 33 st)).left = true then (true, addS (takeS 41 (takeS 40 (takeS 33 st))) [⟨1, [], 0, 0⟩])
     else if (ex (takeS 41 (takeS 40 (takeS 33 st)))).1 = true then (takeB 41 (ex (takeS 41 (takeS 40 (takeS 33 st)))).2.left, takeS 41 (ex (takeS 41 (takeS 40 (takeS 33 st)))).2)
     else (false, (ex (takeS 41 (takeS 40 (takeS 33 st)))).2))
  else wordS (takeS 40 (takeS 33 st))
def plusS (beg : Nat) (a : Int) (st : PS) : PS := pairS (starS (copyS st (st.nodes.drop beg) (a + 1 - beg))) 3 a
def questS (a : Int) (st : PS) : PS := pairS (addS st [⟨1, [], 0, 0⟩]) 4 a
def marksS (beg : Nat) : Nat → PS → Bool × PS
  | 0, st => (true, takeS 63 (takeS 43 (takeS 42 st)))
  | m + 1, st =>
    if takeB 42 st.left = true then marksS beg m (starS (takeS 42 st))
    else if takeB 43 (takeS 42 st).left = true then marksS beg m (plusS beg (lastS st) (takeS 43 (takeS 42 st)))
    else if takeB 63 (takeS 43 (takeS 42 st)).left = true then marksS beg m (questS (lastS st) (takeS 63 (takeS 43 (takeS 42 st))))
    else (true, takeS 63 (takeS 43 (takeS 42 st)))
def itemS (ex : PS → Bool × PS) (st : PS) : Bool × PS := if (atomS ex st).1 = true then marksS st.nodes.length (atomS ex st).2.left.length (atomS ex st).2 else (false, (atomS ex st).2)
def loopS (c : UInt8) (kind : Int) (part : PS → Bool × PS) : Nat → PS → Bool × PS
  | 0, st => (true, takeS c st)
  | m + 1, st =>
    if takeB c st.left = true then
      (if (part (takeS c st)).1 = true then loopS c kind part m (pairS (part (takeS c st)).2 kind (lastS st)) else (false, (part (takeS c st)).2))
    else (true, takeS c st)
def partedS (c : UInt8) (kind : Int) (part : PS → Bool × PS) (st : PS) : Bool × PS := if (part st).1 = true then loopS c kind part (part st).2.left.length (part st).2 else (false, (part st).2)
def seqS (ex : PS → Bool × PS) : PS → Bool × PS := partedS 44 3 (itemS ex)
def exprS : Nat → PS → Bool × PS
  | 0 => fun st => (false, st)
  | n + 1 => partedS 124 4 (seqS (exprS n))
def readS (s : Wd) : Bool × PS := exprS (s.length + 1) ⟨s, false, [], false⟩
/-- The expression of a text, and what is wrong. -/
def parseE (s : Wd) : Int := if 65536 < s.length then 17 else if (readS s).1 = false ∨ allL blankI (readS s).2.left = false then 12 else if (readS s).2.long = true then 11 else if (readS s).2.over = true then 17 else 0
def parseN (s : Wd) : List Nd := if parseE s = 0 then (readS s).2.nodes else []

/-- The nodes of a tree, from a place on. -/
def sz : RE → Nat
  | .none => 1
  | .empty => 1
  | .sym _ => 1
  | .cat s t => sz s + sz t + 1
  | .alt s t => sz s + sz t + 1
  | .star s => sz s + 1
def post : RE → Nat → List Nd
  | .none, _ => [⟨0, [], 0, 0⟩]
  | .empty, _ => [⟨1, [], 0, 0⟩]
  | .sym s, _ => [⟨2, s, 0, 0⟩]
  | .cat s t, b => post s b ++ post t (b + sz s) ++ [⟨3, [], ((b + sz s : Nat) : Int) - 1, ((b + sz s + sz t : Nat) : Int) - 1⟩]
  | .alt s t, b => post s b ++ post t (b + sz s) ++ [⟨4, [], ((b + sz s : Nat) : Int) - 1, ((b + sz s + sz t : Nat) : Int) - 1⟩]
  | .star s, b => post s b ++ [⟨5, [], ((b + sz s : Nat) : Int) - 1, 0⟩]
theorem post_len (t : RE) : ∀ b, (post t b).length = sz t := by
  induction t with
  | none | empty | sym => intro b; rfl
  | cat s t i1 i2 | alt s t i1 i2 => intro b; rw [post, sz, List.length_append, List.length_append, i1, i2]; rfl
  | star s i1 => intro b; rw [post, sz, List.length_append, i1]; rfl
theorem sz_pos (t : RE) : 1 ≤ sz t := by cases t <;> simp [sz]
/-- That all words of a tree are names. -/
def namesT : RE → Bool
  | .none => true
  | .empty => true
  | .sym s => nameL s
  | .cat s t => namesT s && namesT t
  | .alt s t => namesT s && namesT t
  | .star s => namesT s
def fin (st : PS) (t : RE) (z : Wd) : PS := ⟨z, st.long, st.nodes ++ post t st.nodes.length, false⟩
/-- That a text goes on with one of some marks, or not at all. -/
def stops (cs : List UInt8) (z : Wd) : Prop := z = [] ∨ ∃ c r, z = c :: r ∧ c ∈ cs
theorem stops.mono {cs ds : List UInt8} {z : Wd} (h : stops cs z) (k : ∀ c ∈ cs, c ∈ ds) : stops ds z := by
  rcases h with h | ⟨c, r, e, hc⟩
  · exact .inl h
  · exact .inr ⟨c, r, e, k c hc⟩
theorem stops.cons {cs : List UInt8} {c : UInt8} {r : Wd} (h : c ∈ cs) : stops cs (c :: r) := .inr ⟨c, r, rfl, h⟩
theorem skip_nb {x : UInt8} {r : Wd} (h : blankI x.toNat = false) : skipW (x :: r) = x :: r := by
  unfold skipW; rw [List.dropWhile_cons, if_neg (by simp [h])]
theorem take_yes {c : UInt8} {r : Wd} (h : blankI c.toNat = false) : takeB c (c :: r) = true ∧ takeR c (c :: r) = r := by
  have : takeB c (c :: r) = true := by unfold takeB; rw [skip_nb h]; simp
  exact ⟨this, by unfold takeR; rw [if_pos this, skip_nb h]; rfl⟩
theorem take_no {c x : UInt8} {r : Wd} (h : blankI x.toNat = false) (hx : x ≠ c) : takeB c (x :: r) = false ∧ takeR c (x :: r) = x :: r := by
  have : takeB c (x :: r) = false := by unfold takeB; rw [skip_nb h]; simpa using hx
  exact ⟨this, by unfold takeR; rw [if_neg (by rw [this]; simp), skip_nb h]⟩
theorem take_nil (c : UInt8) : takeB c [] = false ∧ takeR c [] = [] := ⟨rfl, rfl⟩
def marks : List UInt8 := [42, 43, 63, 44, 124, 41]
theorem mark_nb {c : UInt8} (h : c ∈ marks) : blankI c.toNat = false ∧ namedI c.toNat = false := by
  unfold marks at h
  simp only [List.mem_cons, List.not_mem_nil, or_false] at h
  rcases h with rfl | rfl | rfl | rfl | rfl | rfl <;> decide
theorem stop_no {cs : List UInt8} {z : Wd} {c : UInt8} (h : stops cs z) (hm : ∀ x ∈ cs, x ∈ marks) (hc : c ∉ cs) : takeB c z = false ∧ takeR c z = z := by
  rcases h with rfl | ⟨x, r, rfl, hx⟩
  · exact take_nil c
  · exact take_no (mark_nb (hm x hx)).1 (fun e => hc (by rw [← e]; exact hx))
/-- What a written tree begins with. -/
def headOk (x : UInt8) : Prop := letterI x.toNat = true ∨ x = 33 ∨ x = 40
theorem headOk.nb {x : UInt8} (h : headOk x) : blankI x.toNat = false ∧ x ≠ 41 ∧ (x ≠ 33 → x ≠ 40 → letterI x.toNat = true) := by
  rcases h with h | rfl | rfl
  · have h' := h
    simp only [letterI, decide_eq_true_eq] at h'
    refine ⟨?_, ?_, fun _ _ => h⟩
    · simp only [blankI, decide_eq_false_iff_not]; omega
    · rintro rfl; revert h'; decide
  · exact ⟨by decide, by decide, fun h => absurd rfl h⟩
  · exact ⟨by decide, by decide, fun _ h => absurd rfl h⟩
theorem name_head {s : Wd} (h : nameL s = true) : ∃ x r, s = x :: r ∧ letterI x.toNat = true ∧ (∀ c ∈ s, namedI c.toNat = true) ∧ s.length ≤ 64 := by
  unfold nameL at h
  rw [Bool.and_eq_true, Bool.and_eq_true, decide_eq_true_eq] at h
  obtain ⟨⟨h1, h2⟩, h3, h4⟩ := h
  cases s with
  | nil => simp at h1
  | cons x r =>
    refine ⟨x, r, rfl, ?_, ?_, h2⟩
    · simpa [allL] using h3
    · unfold allL at h4; exact List.all_eq_true.1 h4
theorem par_head {b : Bool} {x : Wd} (h : ∃ c r, x = c :: r ∧ headOk c) : ∃ c r, par b x = c :: r ∧ headOk c := by
  unfold par
  split
  · exact ⟨40, _, rfl, .inr (.inr rfl)⟩
  · exact h
theorem txt_head {t : RE} (h : namesT t = true) : ∃ c r, txt t = c :: r ∧ headOk c := by
  induction t with
  | none => exact ⟨33, [], rfl, .inr (.inl rfl)⟩
  | empty => exact ⟨40, [41], rfl, .inr (.inr rfl)⟩
  | sym s =>
    obtain ⟨x, r, rfl, hx, _⟩ := name_head (s := s) (by simpa [namesT] using h)
    exact ⟨x, r, rfl, .inl hx⟩
  | cat s t i1 _ =>
    rw [namesT, Bool.and_eq_true] at h
    obtain ⟨c, r, e, hc⟩ := par_head (b := isAlt s) (i1 h.1)
    exact ⟨c, _, by rw [txt, e]; rfl, hc⟩
  | alt s t i1 _ =>
    rw [namesT, Bool.and_eq_true] at h
    obtain ⟨c, r, e, hc⟩ := i1 h.1
    exact ⟨c, _, by rw [txt, e]; rfl, hc⟩
  | star s i1 =>
    rw [namesT] at h
    obtain ⟨c, r, e, hc⟩ := par_head (b := isCat s || isAlt s) (i1 h)
    exact ⟨c, _, by rw [txt, e]; rfl, hc⟩
theorem word_of {s z : Wd} (h : ∀ c ∈ s, namedI c.toNat = true) (hz : stops marks z) : wordW (s ++ z) = s := by
  unfold wordW
  rw [List.takeWhile_append_of_pos (by simpa using h)]
  have : z.takeWhile (fun c => namedI c.toNat) = [] := by
    rcases hz with rfl | ⟨c, r, rfl, hc⟩
    · rfl
    · rw [List.takeWhile_cons, if_neg (by simp [(mark_nb hc).2])]
  rw [this, List.append_nil]
/-- Room for a tree's nodes. -/
structure Fits (st : PS) (t : RE) : Prop where
  over : st.over = false
  room : st.nodes.length + sz t ≤ 1024
  names : namesT t = true
theorem add_fit {st : PS} {ns : List Nd} (h : st.over = false) (hr : st.nodes.length + ns.length ≤ 1024) : addS st ns = { st with nodes := st.nodes ++ ns } := by
  unfold addS; rw [if_neg (by rw [h]; simp; omega)]
theorem fin_len (st : PS) (t : RE) (z : Wd) : (fin st t z).nodes.length = st.nodes.length + sz t := by unfold fin; rw [List.length_append, post_len]
/-- What reads a tree as an item, a sequence, an expression. -/
def QI (n : Nat) (t : RE) : Prop := ∀ (st : PS) (z : Wd), st.left = par (isCat t || isAlt t) (txt t) ++ z → st.left.length ≤ n → Fits st t → stops marks z → ∃ m, z.length ≤ m ∧ itemS (exprS n) st = marksS st.nodes.length m (fin st t z)
def QS (n : Nat) (t : RE) : Prop := ∀ (st : PS) (z : Wd), st.left = par (isAlt t) (txt t) ++ z → st.left.length ≤ n → Fits st t → stops [44, 124, 41] z → ∃ m, z.length ≤ m ∧ seqS (exprS n) st = loopS 44 3 (itemS (exprS n)) m (fin st t z)
def QE (n : Nat) (t : RE) : Prop := ∀ (st : PS) (z : Wd), st.left = txt t ++ z → st.left.length ≤ n → Fits st t → stops [124, 41] z → ∃ m, z.length ≤ m ∧ exprS (n + 1) st = loopS 124 4 (seqS (exprS n)) m (fin st t z)
theorem marks_end {beg m : Nat} {st : PS} (h : stops [44, 124, 41] st.left) : marksS beg m st = (true, st) := by
  have hm : ∀ x ∈ ([44, 124, 41] : List UInt8), x ∈ marks := by decide
  have e : ∀ c : UInt8, c ∉ ([44, 124, 41] : List UInt8) → takeB c st.left = false ∧ takeS c st = st := fun c hc => by
    obtain ⟨h1, h2⟩ := stop_no h hm hc
    exact ⟨h1, by unfold takeS; rw [h2]⟩
  obtain ⟨a1, a2⟩ := e 42 (by decide)
  obtain ⟨b1, b2⟩ := e 43 (by decide)
  obtain ⟨c1, c2⟩ := e 63 (by decide)
  cases m with
  | zero => rw [marksS, a2, b2, c2]
  | succ m => rw [marksS, a1, a2, b1, b2, c1, c2]; simp
theorem loop_end {c : UInt8} {kind : Int} {part : PS → Bool × PS} {m : Nat} {st : PS} {cs : List UInt8} (h : stops cs st.left) (hm : ∀ x ∈ cs, x ∈ marks) (hc : c ∉ cs) : loopS c kind part m st = (true, st) := by
  obtain ⟨h1, h2⟩ := stop_no h hm hc
  have e : takeS c st = st := by unfold takeS; rw [h2]
  cases m with
  | zero => rw [loopS, e]
  | succ m => rw [loopS, h1, e]; simp
/-- What is no row is read as a row of one. -/
theorem seq_of_item {n : Nat} {t : RE} (h : QI n t) (ht : isCat t = false) : QS n t := by
  intro st z hl hn hf hz
  obtain ⟨m, hm, e⟩ := h st z (by rw [ht]; simpa using hl) hn hf (hz.mono (by decide))
  have e1 : itemS (exprS n) st = (true, fin st t z) := by rw [e]; exact marks_end hz
  exact ⟨z.length, Nat.le_refl _, by rw [seqS, partedS, e1]; simp [fin]⟩
theorem expr_of_seq {n : Nat} {t : RE} (h : QS n t) (ht : isAlt t = false) : QE n t := by
  intro st z hl hn hf hz
  obtain ⟨m, hm, e⟩ := h st z (by rw [ht]; simpa [par] using hl) hn hf (hz.mono (by decide))
  have e1 : seqS (exprS n) st = (true, fin st t z) := by rw [e]; exact loop_end hz (by decide) (by decide)
  exact ⟨z.length, Nat.le_refl _, by rw [exprS, partedS, e1]; simp [fin]⟩
theorem takeS_yes {c : UInt8} {st : PS} {r : Wd} (h : blankI c.toNat = false) (hl : st.left = c :: r) : takeB c st.left = true ∧ takeS c st = { st with left := r } := by
  obtain ⟨h1, h2⟩ := take_yes (r := r) h
  rw [hl]
  exact ⟨h1, by unfold takeS; rw [hl, h2]⟩
theorem takeS_no {c x : UInt8} {st : PS} {r : Wd} (h : blankI x.toNat = false) (hl : st.left = x :: r) (hx : x ≠ c) : takeB c st.left = false ∧ takeS c st = st := by
  obtain ⟨h1, h2⟩ := take_no (r := r) h hx
  rw [hl]
  exact ⟨h1, by unfold takeS; rw [hl, h2, ← hl]⟩
/-- What stands between ( and ). -/
theorem item_of_expr {t : RE} (h : ∀ n, QE n t) (ht : (isCat t || isAlt t) = true) (n : Nat) : QI n t := by
  intro st z hl hn hf hz
  rw [ht] at hl
  simp only [par, if_true] at hl
  have hl1 : st.left = 40 :: (txt t ++ (41 :: z)) := by rw [hl]; simp
  obtain ⟨n', rfl⟩ : ∃ k, n = k + 1 := ⟨n - 1, by rw [hl1] at hn; simp at hn; omega⟩
  obtain ⟨x, r, ex, hx⟩ := txt_head hf.names
  obtain ⟨a1, a2⟩ := takeS_no (c := 33) (by decide) hl1 (by decide)
  obtain ⟨b1, b2⟩ := takeS_yes (by decide) hl1
  have hl2 : ({ st with left := txt t ++ (41 :: z) } : PS).left = x :: (r ++ (41 :: z)) := by simp [ex]
  obtain ⟨c1, c2⟩ := takeS_no (c := 41) hx.nb.1 hl2 hx.nb.2.1
  obtain ⟨m, hm, e⟩ := h n' { st with left := txt t ++ (41 :: z) } (41 :: z) rfl (by rw [hl1] at hn; simp at hn ⊢; omega) ⟨hf.over, hf.room, hf.names⟩ (stops.cons (by decide))
  have e1 : exprS (n' + 1) { st with left := txt t ++ (41 :: z) } = (true, fin st t (41 :: z)) := by
    rw [e]
    exact loop_end (cs := [41]) (stops.cons (by decide)) (by decide) (by decide)
  obtain ⟨d1, d2⟩ := takeS_yes (c := 41) (st := fin st t (41 :: z)) (r := z) (by decide) rfl
  have e2 : atomS (exprS (n' + 1)) st = (true, fin st t z) := by
    rw [atomS, a1, a2, b1, b2, c1, c2, e1]
    simp only [Bool.false_eq_true, if_false, if_true]
    rw [d1, d2]
    rfl
  exact ⟨z.length, Nat.le_refl _, by rw [itemS, e2]; simp [fin]⟩
theorem item_atom {n : Nat} {t : RE} (ht : (isCat t || isAlt t) = false) (h : ∀ (st : PS) (z : Wd), st.left = txt t ++ z → Fits st t → stops marks z → atomS (exprS n) st = (true, fin st t z)) : QI n t := by
  intro st z hl hn hf hz
  rw [ht] at hl
  simp only [par, Bool.false_eq_true, if_false] at hl
  exact ⟨z.length, Nat.le_refl _, by rw [itemS, h st z hl hf hz]; simp [fin]⟩
theorem read_none (n : Nat) : QI n .none := item_atom rfl fun st z hl hf hz => by
  obtain ⟨a1, a2⟩ := takeS_yes (c := 33) (st := st) (r := z) (by decide) hl
  have hr := hf.room
  have ho := hf.over
  rw [atomS, a1, a2, if_pos rfl, add_fit (by exact ho) (by exact hr)]
  simp [fin, post, ho]
theorem read_empty (n : Nat) : QI n .empty := item_atom rfl fun st z hl hf hz => by
  have hl1 : st.left = 40 :: 41 :: z := hl
  obtain ⟨a1, a2⟩ := takeS_no (c := 33) (by decide) hl1 (by decide)
  obtain ⟨b1, b2⟩ := takeS_yes (by decide) hl1
  obtain ⟨c1, c2⟩ := takeS_yes (c := 41) (st := { st with left := 41 :: z }) (r := z) (by decide) rfl
  have hr := hf.room
  have ho := hf.over
  rw [atomS, a1, a2, b1, b2, c1, c2]
  simp only [Bool.false_eq_true, if_false, if_true]
  rw [add_fit (by exact ho) (by exact hr)]
  simp [fin, post, ho]
theorem read_sym (n : Nat) (s : Wd) : QI n (.sym s) := item_atom rfl fun st z hl hf hz => by
  obtain ⟨x, r, es, hx, hall, h64⟩ := name_head (s := s) (by simpa [namesT] using hf.names)
  have hh : headOk x := .inl hx
  have hl1 : st.left = x :: (r ++ z) := by rw [hl, txt, es]; rfl
  have n33 : x ≠ 33 := by rintro rfl; revert hx; decide
  have n40 : x ≠ 40 := by rintro rfl; revert hx; decide
  obtain ⟨a1, a2⟩ := takeS_no (c := 33) hh.nb.1 hl1 n33
  obtain ⟨b1, b2⟩ := takeS_no (c := 40) hh.nb.1 hl1 n40
  have hr := hf.room
  have ho := hf.over
  rw [atomS, a1, a2, b1, b2]
  simp only [Bool.false_eq_true, if_false]
  have hs : skipW st.left = s ++ z := by rw [hl1, skip_nb hh.nb.1, es]; rfl
  have hw : wordW (s ++ z) = s := word_of hall hz
  rw [wordS, hs, hw]
  have hlet : isLet (s ++ z) = true := by rw [es]; exact hx
  rw [if_pos hlet, add_fit (by exact ho) (by exact hr)]
  have h64' : decide (64 < s.length) = false := by simp; omega
  simp [fin, post, ho, h64']
theorem star_fin {st : PS} {s : RE} {z : Wd} (hf : Fits st (.star s)) : starS (fin st s z) = fin st (.star s) z := by
  have hr := hf.room
  rw [sz] at hr
  rw [starS, add_fit rfl (by rw [fin_len]; simpa [Nat.add_assoc] using hr)]
  have e : lastS (fin st s z) = ((st.nodes.length + sz s : Nat) : Int) - 1 := by unfold lastS; rw [fin_len]
  rw [e]
  simp [fin, post]
theorem pair_fin {st : PS} {s t : RE} {z y : Wd} {k : Int} (hr : st.nodes.length + (sz s + sz t + 1) ≤ 1024) :
    pairS (fin { fin st s y with left := z } t z) k (lastS (fin st s y)) = ⟨z, st.long, st.nodes ++ (post s st.nodes.length ++ post t (st.nodes.length + sz s) ++ [⟨k, [], ((st.nodes.length + sz s : Nat) : Int) - 1, ((st.nodes.length + sz s + sz t : Nat) : Int) - 1⟩]), false⟩ := by
  have e1 : lastS (fin st s y) = ((st.nodes.length + sz s : Nat) : Int) - 1 := by unfold lastS; rw [fin_len]
  have hn : ({ fin st s y with left := z } : PS).nodes.length = st.nodes.length + sz s := fin_len st s y
  have e2 : lastS (fin { fin st s y with left := z } t z) = ((st.nodes.length + sz s + sz t : Nat) : Int) - 1 := by unfold lastS; rw [fin_len, hn]
  rw [pairS, add_fit rfl (by rw [fin_len, hn]; simp only [List.length_cons, List.length_nil]; omega), e1, e2]
  simp only [fin, List.length_append, post_len, List.append_assoc]
/-- What is written of a tree is read as it. -/
theorem read_any (t : RE) : ∀ n, QI n t ∧ QS n t ∧ QE n t := by
  induction t with
  | none => exact fun n => ⟨read_none n, seq_of_item (read_none n) rfl, expr_of_seq (seq_of_item (read_none n) rfl) rfl⟩
  | empty => exact fun n => ⟨read_empty n, seq_of_item (read_empty n) rfl, expr_of_seq (seq_of_item (read_empty n) rfl) rfl⟩
  | sym s => exact fun n => ⟨read_sym n s, seq_of_item (read_sym n s) rfl, expr_of_seq (seq_of_item (read_sym n s) rfl) rfl⟩
  | star s ih =>
    have key : ∀ n, QI n (.star s) := by
      intro n st z hl hn hf hz
      have hl1 : st.left = par (isCat s || isAlt s) (txt s) ++ (42 :: z) := by rw [hl]; simp [par, isCat, isAlt, txt]
      have hr := hf.room
      rw [sz] at hr
      obtain ⟨m, hm, e⟩ := (ih n).1 st (42 :: z) hl1 hn ⟨hf.over, by omega, hf.names⟩ (stops.cons (by decide))
      obtain ⟨m', rfl⟩ : ∃ k, m = k + 1 := ⟨m - 1, by simp at hm; omega⟩
      obtain ⟨a1, a2⟩ := takeS_yes (c := 42) (st := fin st s (42 :: z)) (r := z) (by decide) rfl
      refine ⟨m', by simp at hm; omega, ?_⟩
      rw [e, marksS, a1, a2, if_pos rfl, ← star_fin hf]
      rfl
    exact fun n => ⟨key n, seq_of_item (key n) rfl, expr_of_seq (seq_of_item (key n) rfl) rfl⟩
  | cat s t is it =>
    have key : ∀ n, QS n (.cat s t) := by
      intro n st z hl hn hf hz
      have hl1 : st.left = par (isAlt s) (txt s) ++ (44 :: (par (isCat t || isAlt t) (txt t) ++ z)) := by rw [hl]; simp [par, isAlt, txt]
      have hr := hf.room
      rw [sz] at hr
      have hnm := hf.names
      rw [namesT, Bool.and_eq_true] at hnm
      obtain ⟨m, hm, e⟩ := (is n).2.1 st _ hl1 hn ⟨hf.over, by omega, hnm.1⟩ (stops.cons (by decide))
      obtain ⟨m', rfl⟩ : ∃ k, m = k + 1 := ⟨m - 1, by simp at hm; omega⟩
      obtain ⟨a1, a2⟩ := takeS_yes (c := 44) (st := fin st s (44 :: (par (isCat t || isAlt t) (txt t) ++ z))) (r := par (isCat t || isAlt t) (txt t) ++ z) (by decide) rfl
      obtain ⟨q, hq, eq⟩ := (it n).1 { fin st s (44 :: (par (isCat t || isAlt t) (txt t) ++ z)) with left := par (isCat t || isAlt t) (txt t) ++ z } z rfl
        (by rw [hl1] at hn; simp at hn ⊢; omega) ⟨rfl, by show (fin st s _).nodes.length + sz t ≤ 1024; rw [fin_len]; omega, hnm.2⟩ (hz.mono (by decide))
      have e1 := eq.trans (marks_end (by exact hz))
      refine ⟨m', by simp at hm; omega, ?_⟩
      rw [e, loopS, a1, a2, if_pos rfl, e1, if_pos rfl]
      have hp := pair_fin (st := st) (s := s) (t := t) (z := z) (y := 44 :: (par (isCat t || isAlt t) (txt t) ++ z)) (k := 3) hr
      have e3 : fin st (.cat s t) z = ⟨z, st.long, st.nodes ++ (post s st.nodes.length ++ post t (st.nodes.length + sz s) ++ [⟨3, [], ((st.nodes.length + sz s : Nat) : Int) - 1, ((st.nodes.length + sz s + sz t : Nat) : Int) - 1⟩]), false⟩ := rfl
      rw [e3, ← hp]
      rfl
    have k2 : ∀ n, QE n (.cat s t) := fun n => expr_of_seq (key n) rfl
    exact fun n => ⟨item_of_expr k2 rfl n, key n, k2 n⟩
  | alt s t is it =>
    have key : ∀ n, QE n (.alt s t) := by
      intro n st z hl hn hf hz
      have hl1 : st.left = txt s ++ (124 :: (par (isAlt t) (txt t) ++ z)) := by rw [hl]; simp [txt]
      have hr := hf.room
      rw [sz] at hr
      have hnm := hf.names
      rw [namesT, Bool.and_eq_true] at hnm
      obtain ⟨m, hm, e⟩ := (is n).2.2 st _ hl1 hn ⟨hf.over, by omega, hnm.1⟩ (stops.cons (by decide))
      obtain ⟨m', rfl⟩ : ∃ k, m = k + 1 := ⟨m - 1, by simp at hm; omega⟩
      obtain ⟨a1, a2⟩ := takeS_yes (c := 124) (st := fin st s (124 :: (par (isAlt t) (txt t) ++ z))) (r := par (isAlt t) (txt t) ++ z) (by decide) rfl
      obtain ⟨q, hq, eq⟩ := (it n).2.1 { fin st s (124 :: (par (isAlt t) (txt t) ++ z)) with left := par (isAlt t) (txt t) ++ z } z rfl
        (by rw [hl1] at hn; simp at hn ⊢; omega) ⟨rfl, by show (fin st s _).nodes.length + sz t ≤ 1024; rw [fin_len]; omega, hnm.2⟩ (hz.mono (by decide))
      have e1 := eq.trans (loop_end (cs := [124, 41]) (by exact hz) (by decide) (by decide))
      refine ⟨m', by simp at hm; omega, ?_⟩
      rw [e, loopS, a1, a2, if_pos rfl, e1, if_pos rfl]
      have hp := pair_fin (st := st) (s := s) (t := t) (z := z) (y := 124 :: (par (isAlt t) (txt t) ++ z)) (k := 4) hr
      have e3 : fin st (.alt s t) z = ⟨z, st.long, st.nodes ++ (post s st.nodes.length ++ post t (st.nodes.length + sz s) ++ [⟨4, [], ((st.nodes.length + sz s : Nat) : Int) - 1, ((st.nodes.length + sz s + sz t : Nat) : Int) - 1⟩]), false⟩ := rfl
      rw [e3, ← hp]
      rfl
    have k1 : ∀ n, QI n (.alt s t) := item_of_expr key rfl
    exact fun n => ⟨k1 n, seq_of_item (k1 n) rfl, key n⟩
theorem read_txt {t : RE} (hs : sz t ≤ 1024) (hn : namesT t = true) : readS (txt t) = (true, ⟨[], false, post t 0, false⟩) := by
  obtain ⟨m, hm, e⟩ := (read_any t (txt t).length).2.2 ⟨txt t, false, [], false⟩ [] (by simp) (Nat.le_refl _) ⟨rfl, by simpa using hs, hn⟩ (.inl rfl)
  unfold readS
  rw [e, loop_end (cs := []) (.inl rfl) (by decide) (by decide)]
  simp [fin]
theorem parse_txt {t : RE} (hs : sz t ≤ 1024) (hn : namesT t = true) (hl : (txt t).length ≤ 65536) : parseE (txt t) = 0 ∧ parseN (txt t) = post t 0 := by
  have h := read_txt hs hn
  have h1 : parseE (txt t) = 0 := by
    unfold parseE
    rw [if_neg (by omega), h]
    rfl
  exact ⟨h1, by unfold parseN; rw [if_pos h1, h]⟩
end Go.Proofs.Ytnaimmhdpjggmaa.U
