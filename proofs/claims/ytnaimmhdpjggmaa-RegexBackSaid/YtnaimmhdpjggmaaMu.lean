/- A reader in memory; what it takes. -/
import Derived.Test.YtnaimmhdpjggmaaMn
import Derived.Test.YtnaimmhdpjggmaaRx5
namespace Go.Proofs.Ytnaimmhdpjggmaa.U
open Go.RowKit

/-- A text of these bytes. -/
def bs (s : Wd) : ByteArray := ⟨s.toArray⟩
theorem bs_bts (s : Wd) : bts (bs s) = s := bts_mk s
/-- A reader in a block. -/
structure RdM (w : World) (rb : Nat) (st : PS) : Prop where
  row : ∃ v, WR w rb 70 [.string (bs st.left), .bool st.long, v, .bool st.over] ∧ NO w (rb + 1) 45 v st.nodes
  few : st.nodes.length ≤ 1024
theorem RdM.below {w w' : World} {rb : Nat} {st : PS} (h : RdM w rb st) (hb : Below w.heap.size w w') : RdM w' rb st := by
  obtain ⟨v, h1, h2⟩ := h.row
  exact ⟨⟨v, h1.below hb, h2.kept hb⟩, h.few⟩
theorem RdM.lt {w : World} {rb : Nat} {st : PS} (h : RdM w rb st) : rb < w.heap.size := by
  obtain ⟨v, h1, _⟩ := h.row
  exact h1.lt
theorem RdM.setLeft {w : World} {rb : Nat} {st : PS} (h : RdM w rb st) (s : Wd) : RdM (w.setCell ⟨rb, 0, none⟩ (.string (bs s))) rb { st with left := s } := by
  obtain ⟨v, h1, h2⟩ := h.row
  exact ⟨⟨v, h1.set 0 _, h2.setLow (p := ⟨rb, 0, none⟩) (by simp) _⟩, h.few⟩
theorem RdM.setLong {w : World} {rb : Nat} {st : PS} (h : RdM w rb st) (b : Bool) : RdM (w.setCell ⟨rb, 1, none⟩ (.bool b)) rb { st with long := b } := by
  obtain ⟨v, h1, h2⟩ := h.row
  exact ⟨⟨v, h1.set 1 _, h2.setLow (p := ⟨rb, 1, none⟩) (by simp) _⟩, h.few⟩
theorem RdM.setOver {w : World} {rb : Nat} {st : PS} (h : RdM w rb st) (b : Bool) : RdM (w.setCell ⟨rb, 3, none⟩ (.bool b)) rb { st with over := b } := by
  obtain ⟨v, h1, h2⟩ := h.row
  exact ⟨⟨v, h1.set 3 _, h2.setLow (p := ⟨rb, 3, none⟩) (by simp) _⟩, h.few⟩
/-- What is not written behind a reader. -/
theorem setAt_below {w : World} {rb i : Nat} (v : Value) : Below rb w (w.setCell ⟨rb, i, none⟩ v) := (Below.refl rb w).setCell (p := ⟨rb, i, none⟩) (Nat.le_refl _) v
theorem rb_below {w w' : World} {rb : Nat} (h : rb ≤ w.heap.size) (hb : Below w.heap.size w w') : Below rb w w' := hb.mono h
/-- How long what is left is, off memory. -/
def leftLen (rb : Nat) (w : World) : Nat := match w.cell? ⟨rb, 0, none⟩ with
  | some (.string s) => s.size
  | _ => 0
theorem leftLen_of {w : World} {rb : Nat} {s : ByteArray} (h : w.cell? ⟨rb, 0, none⟩ = some (.string s)) : leftLen rb w = s.size := by unfold leftLen; rw [h]
theorem bs_size (s : Wd) : (bs s).size = s.length := str_size s
theorem bs_tail (x : UInt8) (r : Wd) : (bs (x :: r)).extract 1 (bs (x :: r)).size = bs r := by
  apply bts_inj
  rw [bts_extract, bs_bts, bs_bts, bs_size, List.take_of_length_le (Nat.le_refl _)]; rfl
theorem bs_head (x : UInt8) (r : Wd) : (bs (x :: r)).extract 0 1 = bs [x] := by
  apply bts_inj
  rw [bts_extract, bs_bts, bs_bts]; rfl
theorem skip_cons_t {x : UInt8} {r : Wd} (h : blankI x.toNat = true) : skipW (x :: r) = skipW r := by
  unfold skipW; rw [List.dropWhile_cons, if_pos h]
theorem skip_cons_f {x : UInt8} {r : Wd} (h : blankI x.toNat = false) : skipW (x :: r) = x :: r := skip_nb h
def SkipPost (rb : Nat) (st : PS) (w : World) (e : Ending) (w' : World) : Prop := e = .returned (.tuple #[]) ∧ RdM w' rb { st with left := skipW st.left } ∧ Below rb w w'
set_option maxHeartbeats 4000000 in
set_option maxRecDepth 10000 in
theorem skip_any (rb : Nat) (st : PS) (w : World) (h : RdM w rb st) : Calls Try.prog 81 #[.pointer (some ⟨rb, 0, none⟩)] w fun e w' => SkipPost rb st w e w' := by
  have H := Lib.hid h
  clear h
  go_enter Try.func81, Try.ntmps81
  go_wp2_with fail
  go_loopw [] (fun wr => Hid (∃ s, RdM wr rb { st with left := s } ∧ skipW s = skipW st.left ∧ Below rb w wr)) (fun wr => leftLen rb wr)
  case atStart => exact Lib.hid ⟨st.left, H.out, rfl, Below.refl _ _⟩
  case round =>
    obtain ⟨s, hr, hs, hb⟩ := hrel.out
    obtain ⟨v, h1, h2⟩ := hr.row
    have c0 := h1.cell (j := 0) rfl
    have f0 := h1.froz 0
    have HLEN := Lib.hid (leftLen_of c0)
    have HR := Lib.hid hr
    have HS := Lib.hid hs
    have HB := Lib.hid hb
    have hlt := hr.lt
    clear hr hs hb h1 h2 hrel
    cases s with
    | nil =>
      have e0 : bs ([] : Wd) = ⟨#[]⟩ := rfl
      simp only [e0] at c0
      go_wp2_with fail
      go_end0
      exact ⟨rfl, by have := HR.out; rwa [← HS.out], HB.out⟩
    | cons x r =>
      have hsz := bs_size (x :: r)
      have hne := emp_no (s := bs (x :: r)) (by rw [hsz]; simp)
      have h11 : (1 : Int) ≤ (bs (x :: r)).size := by rw [hsz]; simp; omega
      have h12 : 1 ≤ (bs (x :: r)).size := by rw [hsz]; simp
      have hbl : allL blankI (bts ((bs (x :: r)).extract 0 1)) = blankI x.toNat := by rw [bs_head, bs_bts]; simp [allL]
      have HBL := Lib.hid (fun W => blankS_any ((bs (x :: r)).extract 0 1) W)
      rw [hbl] at HBL
      have HT := Lib.hid (bs_tail x r)
      have HSZ := Lib.hid hsz
      obtain ⟨S, hS⟩ : ∃ S, S = bs (x :: r) := ⟨_, rfl⟩
      rw [← hS] at c0 hne h11 h12 HBL HT HSZ HLEN
      obtain ⟨S1, hS1⟩ : ∃ S1, S1 = S.extract 0 1 := ⟨_, rfl⟩
      rw [← hS1] at HBL
      have HS1 := Lib.hid hS1
      have hS1' := hS1.symm
      clear hsz hbl hS hS1
      cases hx : blankI x.toNat with
      | false =>
        rw [hx] at HBL
        have HX := Lib.hid hx
        clear hx
        go_wp2_with fail
        refine (HBL.out _).mono ?_
        rintro e w2 ⟨rfl, hb2⟩
        have HB2 := Lib.hid hb2
        clear hb2
        go_wp2_with fail
        go_end0
        refine ⟨rfl, ?_, HB.out.trans (rb_below (Nat.le_of_lt hlt) HB2.out)⟩
        rw [← HS.out, skip_cons_f HX.out]
        exact HR.out.below HB2.out
      | true =>
        rw [hx] at HBL
        have HX := Lib.hid hx
        clear hx
        go_wp2_with fail
        refine (HBL.out _).mono ?_
        rintro e w2 ⟨rfl, hb2⟩
        have c2 := up_cell hb2 (Nat.le_refl _) c0
        have hr2 := HR.out.below hb2
        have HR2 := Lib.hid hr2
        have f2 : w2.frozen? ⟨rb, 0, none⟩ = false := by
          obtain ⟨v', h1', _⟩ := hr2.row
          exact h1'.froz 0
        have HB2 := Lib.hid (HB.out.trans (rb_below (Nat.le_of_lt hlt) hb2))
        have hlt2 : rb < w2.heap.size := hr2.lt
        have hset := hr2.setLeft r
        rw [← HT.out] at hset
        have HFIN := Lib.hid hset
        have HC : Hid ((w2.setCell ⟨rb, 0, none⟩ (.string (S.extract 1 S.size))).cell? ⟨rb, 0, none⟩ = some (.string (S.extract 1 S.size))) := Lib.hid (by
          obtain ⟨v', h1', _⟩ := hr2.row
          exact (h1'.set 0 _).cell rfl)
        clear hb2 hr2 c0 f0 hset
        go_wp2_with fail
        go_roundw
        case rel => exact Lib.hid ⟨r, HFIN.out, by rw [← HS.out, skip_cons_t HX.out], HB2.out.trans (setAt_below _)⟩
        case measure =>
          rw [leftLen_of HC.out, HLEN.out, HT.out, HSZ.out, bs_size]
          simp
end Go.Proofs.Ytnaimmhdpjggmaa.U
