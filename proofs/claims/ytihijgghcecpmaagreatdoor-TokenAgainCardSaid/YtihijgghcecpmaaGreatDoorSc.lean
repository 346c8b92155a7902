/- Contracts of package token: a place in a document: more, skip, until, ends. -/
import Derived.Test.YtihijgghcecpmaaGreatDoorQ2
import Derived.Test.YtihijgghcecpmaaGreatDoorConv
import Derived.Test.YtihijgghcecpmaaGreatDoorShelf
import Derived.Deep.QuietTactic
import Derived.BigQuiet
namespace Go.Proofs.YtihijgghcecpmaaGreatDoor.U
open Go.RowKit Go.Shelf

/-- The library's variable MaxLen holds a number. -/
def Mx (w : World) : Prop := ∃ m, w.cell? ⟨2, 0, none⟩ = some (.int .i64 m)
structure LayT (w : World) : Prop where
  lay : LayS w
  mx : Mx w
theorem LayT.size {w : World} (h : LayT w) : 6 ≤ w.heap.size := by
  have h0 := h.lay.size
  obtain ⟨_, h1⟩ := h.mx
  have := block_lt_of_cell h1
  simp at this
  omega
theorem Mx.drewN {w : World} (h : Mx w) (n : Nat) : Mx (w.drewN n) := by
  obtain ⟨m, hm⟩ := h
  exact ⟨m, hm⟩
theorem LayT.below {w w' : World} {B : Nat} (h : LayT w) (hb : Below B w w') (hB : 6 ≤ B) : LayT w' :=
  ⟨h.lay.below hb (by omega), by
    obtain ⟨m, hm⟩ := h.mx
    exact ⟨m, (hb.cell (p := ⟨2, 0, none⟩) (by simp; omega)).trans hm⟩⟩
/-- What writes one block alone, above all tables. -/
theorem below_of_grown {w w' : World} {b : Nat} (hg : w.grownBy w' (some b)) (hb : b < w.heap.size) : Below b w w' :=
  ⟨hg.os, hg.tape, hg.output, hg.size, fun k hk => hg.block k (by omega) (fun e => by have := Option.some.inj e; omega)⟩
theorem LayT.grown {w w' : World} {b : Nat} (h : LayT w) (hg : w.grownBy w' (some b)) (hb : b < w.heap.size) (hB : 6 ≤ b) : LayT w' :=
  h.below (below_of_grown hg hb) hB

theorem grow_refl (w : World) (r : Option Nat) : w.grownBy w r := ⟨rfl, rfl, rfl, Nat.le_refl _, fun _ _ _ => rfl⟩
theorem grow_trans {a b c : World} {r : Option Nat} (h : a.grownBy b r) (k : b.grownBy c r) : a.grownBy c r :=
  ⟨k.os.trans h.os, k.tape.trans h.tape, k.output.trans h.output, Nat.le_trans h.size k.size, fun i hi hr => (k.block i (Nat.lt_of_lt_of_le hi h.size) hr).trans (h.block i hi hr)⟩
theorem grow_below {w w' : World} (h : Below w.heap.size w w') (r : Option Nat) : w.grownBy w' r := ⟨h.os, h.tape, h.output, h.size, fun k hk _ => h.block k hk⟩
theorem grow_set (w : World) (b o : Nat) (u : Value) : w.grownBy (w.setCell ⟨b, o, none⟩ u) (some b) :=
  ⟨rfl, rfl, rfl, by simp, fun k _ hr => Below.heap_setCell w ⟨b, o, none⟩ u k (fun e => hr (by rw [e]))⟩
theorem grow_drewN (w : World) (n : Nat) (r : Option Nat) : w.grownBy (w.drewN n) r := ⟨rfl, rfl, rfl, Nat.le_refl _, fun _ _ _ => rfl⟩

/-- A scanner's block: the document, the place, the marks. -/
def BoxS (b : Nat) (doc : ByteArray) (p : Nat) (v : Value) (w : World) : Prop := w.heap[b]? = some (.cells #[.string doc, .int .i64 p, v] 57 (0, 0))
theorem BoxS.at {b p : Nat} {doc : ByteArray} {v : Value} {w : World} (h : BoxS b doc p v w) :
    w.cell? ⟨b, 0, none⟩ = some (.string doc) ∧ w.cell? ⟨b, 1, none⟩ = some (.int .i64 p) ∧ w.cell? ⟨b, 2, none⟩ = some v ∧ w.frozen? ⟨b, 0, none⟩ = false ∧ w.frozen? ⟨b, 1, none⟩ = false ∧ w.frozen? ⟨b, 2, none⟩ = false :=
  ⟨by rw [Lib.cell_of_heap h]; rfl, by rw [Lib.cell_of_heap h]; rfl, by rw [Lib.cell_of_heap h]; rfl, Lib.frozen_of_heap h 0, Lib.frozen_of_heap h 1, Lib.frozen_of_heap h 2⟩
theorem BoxS.lt {b p : Nat} {doc : ByteArray} {v : Value} {w : World} (h : BoxS b doc p v w) : b < w.heap.size := (Array.getElem?_eq_some_iff.1 h).1
theorem BoxS.below {b p : Nat} {doc : ByteArray} {v : Value} {w w' : World} (h : BoxS b doc p v w) (hb : Below w.heap.size w w') : BoxS b doc p v w' := (hb.block b h.lt).trans h
theorem BoxS.drewN {b p : Nat} {doc : ByteArray} {v : Value} {w : World} (h : BoxS b doc p v w) (n : Nat) : BoxS b doc p v (w.drewN n) := h
theorem BoxS.set {b p : Nat} {doc : ByteArray} {v : Value} {w : World} (h : BoxS b doc p v w) (p' : Nat) : BoxS b doc p' v (w.setCell ⟨b, 1, none⟩ (.int .i64 p')) := by
  unfold BoxS at h ⊢
  simp [World.setCell, Array.getElem?_modify, h]

/-- What a scanner's method leaves: the place may be another one, and there may be new blocks. -/
structure Moves (b : Nat) (doc : ByteArray) (v : Value) (p' : Nat) (w w' : World) : Prop where
  grown : w.grownBy w' (some b)
  box : BoxS b doc p' v w'
theorem Moves.trans {b p q : Nat} {doc : ByteArray} {v : Value} {w w1 w2 : World} (h : Moves b doc v p w w1) (k : Moves b doc v q w1 w2) : Moves b doc v q w w2 := ⟨grow_trans h.grown k.grown, k.box⟩
theorem Moves.below {b p : Nat} {doc : ByteArray} {v : Value} {w w1 w2 : World} (h : Moves b doc v p w w1) (k : Below w1.heap.size w1 w2) : Moves b doc v p w w2 := ⟨grow_trans h.grown (grow_below k _), h.box.below k⟩

theorem beg_pre (s x : ByteArray) (p : Nat) : Lib.hasPrefix (s.extract p s.size).data.toList x.data.toList = begL (bts x) ((bts s).drop p) := by
  show (bts x).isPrefixOf (bts (s.extract p s.size)) = (bts x).isPrefixOf ((bts s).drop p)
  rw [bts_extract, List.take_of_length_le (by rw [bts_len]; omega)]
theorem hasPrefix_any (s x : ByteArray) (w : World) : Calls Tryz.prog 58 #[.string s, .string x] w fun e w' => e = .returned (.bool (begL (bts x) (bts s))) ∧ w = w' :=
  (S.strings_HasPrefix s x w).mono fun _ _ ⟨h1, h2⟩ => ⟨h1, h2.symm⟩
theorem index_find (x : List UInt8) : ∀ l : List UInt8, Lib.index l x = match findL x l with | some e => (e : Int) | none => -1 := by
  intro l
  induction l with
  | nil =>
    simp only [Lib.index, findL]
    cases x with
    | nil => rfl
    | cons a t => rfl
  | cons c t ih =>
    simp only [Lib.index, findL]
    rw [ih]
    by_cases h : x.isPrefixOf (c :: t) = true
    · rw [if_pos h, if_pos (show begL x (c :: t) = true from h)]
      rfl
    · rw [if_neg h, if_neg (show ¬ begL x (c :: t) = true from h)]
      cases findL x t with
      | none => rfl
      | some e =>
        simp only [Option.map_some]
        rw [if_neg (by simp)]
        rfl
theorem cut_some {x l : List UInt8} {e : Nat} (h : findL x l = some e) : Lib.cut l x = (l.take e, l.drop (e + x.length), true) := by
  unfold Lib.cut
  rw [index_find, h]
  simp only
  rw [if_pos (by omega)]
  simp
theorem cut_none {x l : List UInt8} (h : findL x l = none) : Lib.cut l x = (l, [], false) := by
  unfold Lib.cut
  rw [index_find, h]
  rfl
theorem contains_find (x l : List UInt8) : Lib.contains l x = (findL x l).isSome := by
  unfold Lib.contains
  rw [index_find]
  cases findL x l <;> simp

set_option maxHeartbeats 1000000 in
theorem more_any (b p : Nat) (doc : ByteArray) (v : Value) (w : World) (h : BoxS b doc p v w) :
    Calls Tryz.prog 21 #[.pointer (some ⟨b, 0, none⟩)] w fun e w' => e = .returned (.bool (decide (p < doc.size))) ∧ ∃ n, w' = w.drewN n := by
  obtain ⟨c0, c1, c2, f0, f1, f2⟩ := h.at
  by_cases hlt : p < doc.size
  · rw [decide_eq_true hlt]
    go_enter Tryz.func21, Tryz.ntmps21
    go_wp2_with fail
    go_quiet (fail)
    go_wp2
    go_ret
    exact ⟨rfl, _, rfl⟩
  · rw [decide_eq_false hlt]
    go_enter Tryz.func21, Tryz.ntmps21
    go_wp2_with fail
    go_quiet (fail)
    go_wp2
    go_ret
    exact ⟨rfl, _, rfl⟩

theorem moves_set {b p : Nat} {doc : ByteArray} {v : Value} {w : World} (h : BoxS b doc p v w) (n q : Nat) {z : Int} (hz : z = q) : Moves b doc v q w ((w.drewN n).setCell ⟨b, 1, none⟩ (.int .i64 z)) := by
  subst hz
  exact ⟨grow_trans (grow_drewN w n _) (grow_set _ _ _ _), (h.drewN n).set q⟩
theorem moves_stay {b p : Nat} {doc : ByteArray} {v : Value} {w : World} (h : BoxS b doc p v w) (n : Nat) : Moves b doc v p w (w.drewN n) := ⟨grow_drewN w n _, h.drewN n⟩
theorem rest_bts {s : ByteArray} {p : Nat} : bts (s.extract p s.size) = (bts s).drop p := by rw [bts_extract, List.take_of_length_le (by rw [bts_len]; omega)]

set_option maxHeartbeats 1000000 in
theorem skip_yes (b p : Nat) (doc x : ByteArray) (v : Value) (w : World) (h : BoxS b doc p v w) (hp : p ≤ doc.size) (hs : doc.size ≤ 100000) (hb : begL (bts x) ((bts doc).drop p) = true) :
    Calls Tryz.prog 35 #[.pointer (some ⟨b, 0, none⟩), .string x] w fun e w' => e = .returned (.bool true) ∧ Moves b doc v (p + x.size) w w' := by
  have hx := begL_len hb
  rw [List.length_drop, bts_len, bts_len] at hx
  have HH : Hid (∀ W, Calls Tryz.prog 58 #[.string (doc.extract p doc.size), .string x] W fun e w' => e = .returned (.bool true) ∧ w' = W) := Lib.hid (fun W => (hasPrefix_any _ x W).mono (by
    rintro e w' ⟨h1, h2⟩
    rw [rest_bts, hb] at h1
    exact ⟨h1, h2.symm⟩))
  have HB := Lib.hid h
  obtain ⟨c0, c1, c2, f0, f1, f2⟩ := h.at
  clear h hb
  go_enter Tryz.func35, Tryz.ntmps35
  go_wp2_with fail
  go_quiet ((go_at_call 58; exact Calls.quiet_of_same (HH.out _)))
  go_wp2
  go_ret
  exact ⟨rfl, moves_set HB.out _ _ (by omega)⟩
set_option maxHeartbeats 1000000 in
theorem skip_no (b p : Nat) (doc x : ByteArray) (v : Value) (w : World) (h : BoxS b doc p v w) (hp : p ≤ doc.size) (_hs : doc.size ≤ 100000) (hb : begL (bts x) ((bts doc).drop p) = false) :
    Calls Tryz.prog 35 #[.pointer (some ⟨b, 0, none⟩), .string x] w fun e w' => e = .returned (.bool false) ∧ Moves b doc v p w w' := by
  have HH : Hid (∀ W, Calls Tryz.prog 58 #[.string (doc.extract p doc.size), .string x] W fun e w' => e = .returned (.bool false) ∧ w' = W) := Lib.hid (fun W => (hasPrefix_any _ x W).mono (by
    rintro e w' ⟨h1, h2⟩
    rw [rest_bts, hb] at h1
    exact ⟨h1, h2.symm⟩))
  have HB := Lib.hid h
  obtain ⟨c0, c1, c2, f0, f1, f2⟩ := h.at
  clear h hb
  go_enter Tryz.func35, Tryz.ntmps35
  go_wp2_with fail
  go_quiet ((go_at_call 58; exact Calls.quiet_of_same (HH.out _)))
  go_wp2
  go_ret
  exact ⟨rfl, moves_stay HB.out _⟩

theorem cut_c {s x : ByteArray} {w : World} (hm : Mx w) (hs : s.size ≤ 1000000) (n : Nat) (y z : List UInt8) (ok : Bool) (hr : Lib.cut (bts s) (bts x) = (y, z, ok)) :
    Calls Tryz.prog 59 #[.string s, .string x] (w.drewN n) fun e w' => e = .returned (.tuple #[.string ⟨y.toArray⟩, .string ⟨z.toArray⟩, .bool ok]) ∧ ∃ m, w' = w.drewN m := by
  obtain ⟨m, hm⟩ := hm.drewN n
  refine Calls.quiet_of ((S.strings_Cut s x m _ (by omega) hm).mono ?_)
  rintro e w' ⟨h1, h2⟩
  refine ⟨?_, h2⟩
  rw [h1]
  show Ending.returned (.tuple #[.string ⟨(Lib.cut (bts s) (bts x)).1.toArray⟩, .string ⟨(Lib.cut (bts s) (bts x)).2.1.toArray⟩, .bool (Lib.cut (bts s) (bts x)).2.2]) = _
  rw [hr]
set_option maxHeartbeats 1000000 in
theorem until_some (b p k : Nat) (doc x : ByteArray) (v : Value) (w : World) (hm : Mx w) (h : BoxS b doc p v w) (hp : p ≤ doc.size) (hs : doc.size ≤ 100000) (hb : findL (bts x) ((bts doc).drop p) = some k) :
    Calls Tryz.prog 52 #[.pointer (some ⟨b, 0, none⟩), .string x] w fun e w' => e = .returned (.tuple #[.string ⟨(((bts doc).drop p).take k).toArray⟩, .bool true]) ∧ Moves b doc v (p + (k + x.size)) w w' := by
  have hx := findL_len hb
  rw [List.length_drop, bts_len, bts_len] at hx
  have HC := Lib.hid (fun n => cut_c (s := doc.extract p doc.size) (x := x) hm (by rw [ByteArray.size_extract]; omega) n (((bts doc).drop p).take k) (((bts doc).drop p).drop (k + (bts x).length)) true (by rw [rest_bts]; exact cut_some hb))
  have HS : Hid ((⟨(((bts doc).drop p).take k).toArray⟩ : ByteArray).size = k) := Lib.hid (by rw [← bts_len, bts_mk, List.length_take, List.length_drop, bts_len]; omega)
  have HB := Lib.hid h
  obtain ⟨c0, c1, c2, f0, f1, f2⟩ := h.at
  generalize (⟨(((bts doc).drop p).take k).toArray⟩ : ByteArray) = y at HS HC ⊢
  have hy : y.size ≤ 100000 := by have := HS.out; omega
  clear h hb hm
  go_enter Tryz.func52, Tryz.ntmps52
  go_wp2_with fail
  go_quiet ((go_at_call 59; exact HC.out _))
  go_wp2
  go_ret2
  exact ⟨rfl, moves_set HB.out _ _ (by have := HS.out; omega)⟩
set_option maxHeartbeats 1000000 in
theorem until_none (b p : Nat) (doc x : ByteArray) (v : Value) (w : World) (hm : Mx w) (h : BoxS b doc p v w) (hp : p ≤ doc.size) (hs : doc.size ≤ 100000) (hb : findL (bts x) ((bts doc).drop p) = none) :
    Calls Tryz.prog 52 #[.pointer (some ⟨b, 0, none⟩), .string x] w fun e w' => e = .returned (.tuple #[.string (doc.extract p doc.size), .bool false]) ∧ Moves b doc v p w w' := by
  have HC := Lib.hid (fun n => cut_c (s := doc.extract p doc.size) (x := x) hm (by rw [ByteArray.size_extract]; omega) n ((bts doc).drop p) [] false (by rw [rest_bts]; exact cut_none hb))
  have HS : Hid ((⟨((bts doc).drop p).toArray⟩ : ByteArray) = doc.extract p doc.size) := Lib.hid (by rw [← rest_bts, mk_bts])
  simp only [HS.out] at HC
  have HB := Lib.hid h
  obtain ⟨c0, c1, c2, f0, f1, f2⟩ := h.at
  clear h hb hm HS
  go_enter Tryz.func52, Tryz.ntmps52
  go_wp2_with fail
  go_quiet ((go_at_call 59; exact HC.out _))
  go_wp2
  go_ret2
  exact ⟨rfl, moves_stay HB.out _⟩

set_option maxHeartbeats 1000000 in
theorem ends_any (b p : Nat) (doc : ByteArray) (v : Value) (w : World) (h : BoxS b doc p v w) (hp : p ≤ doc.size) :
    Calls Tryz.prog 55 #[.pointer (some ⟨b, 0, none⟩)] w fun e w' => e = .returned (.bool (begL [47, 62] ((bts doc).drop p) || begL [62] ((bts doc).drop p))) ∧ Moves b doc v p w w' := by
  have HB := Lib.hid h
  obtain ⟨c0, c1, c2, f0, f1, f2⟩ := h.at
  have H1 : Hid (∀ W, Calls Tryz.prog 58 #[.string (doc.extract p doc.size), .string ⟨#[47, 62]⟩] W fun e w' => e = .returned (.bool (begL [47, 62] ((bts doc).drop p))) ∧ W = w') := Lib.hid (fun W => by
    have := hasPrefix_any (doc.extract p doc.size) ⟨#[47, 62]⟩ W
    rw [rest_bts] at this; exact this)
  have H2 : Hid (∀ W, Calls Tryz.prog 58 #[.string (doc.extract p doc.size), .string ⟨#[62]⟩] W fun e w' => e = .returned (.bool (begL [62] ((bts doc).drop p))) ∧ W = w') := Lib.hid (fun W => by
    have := hasPrefix_any (doc.extract p doc.size) ⟨#[62]⟩ W
    rw [rest_bts] at this; exact this)
  clear h
  generalize begL [47, 62] ((bts doc).drop p) = q at H1 ⊢
  generalize begL [62] ((bts doc).drop p) = q2 at H2 ⊢
  go_enter Tryz.func55, Tryz.ntmps55
  go_wp2_with fail
  go_quiet (fail)
  go_wp2_with fail
  refine (H1.out _).mono ?_
  rintro e w2 ⟨rfl, rfl⟩
  cases q with
  | true =>
    go_wp2
    go_ret
    exact ⟨rfl, moves_stay HB.out _⟩
  | false =>
    go_wp2_with fail
    refine (H2.out _).mono ?_
    rintro e w2 ⟨rfl, rfl⟩
    go_wp2
    go_ret
    exact ⟨rfl, moves_stay HB.out _⟩
end Go.Proofs.YtihijgghcecpmaaGreatDoor.U
