/- A reader's expressions. -/
import Derived.Test.YtnaimmhdpjggmaaPa
namespace Go.Proofs.Ytnaimmhdpjggmaa.U
open Go.RowKit

theorem addS_left' (st : PS) (ns : List Nd) (x : Wd) (h : st.left <:+ x) : (addS st ns).left <:+ x := by rw [addS_left]; exact h
theorem word_suf (st : PS) : (wordS st).2.left <:+ st.left := by
  unfold wordS
  split
  · exact (List.drop_suffix _ _).trans (skip_suf _)
  · exact skip_suf _
theorem takeS_suf (c : UInt8) (st : PS) : (takeS c st).left <:+ st.left := take_suf c st.left
theorem atom_suf (ex : PS → Bool × PS) (h : ∀ st : PS, (ex st).2.left <:+ st.left) (st : PS) : (atomS ex st).2.left <:+ st.left := by
  unfold atomS
  split
  · exact addS_left' _ _ _ (takeS_suf _ _)
  · split
    · split
      · exact addS_left' _ _ _ ((takeS_suf _ _).trans ((takeS_suf _ _).trans (takeS_suf _ _)))
      · split
        · exact (takeS_suf _ _).trans ((h _).trans ((takeS_suf _ _).trans ((takeS_suf _ _).trans (takeS_suf _ _))))
        · exact (h _).trans ((takeS_suf _ _).trans ((takeS_suf _ _).trans (takeS_suf _ _)))
    · exact (word_suf _).trans ((takeS_suf _ _).trans (takeS_suf _ _))
theorem plus_left (b : Nat) (a : Int) (st : PS) : (plusS b a st).left = st.left := by
  unfold plusS pairS starS copyS
  rw [addS_left, addS_left]
  split
  · rfl
  · rw [addS_left]
theorem marks_suf (b m : Nat) : ∀ st : PS, (marksS b m st).2.left <:+ st.left := by
  induction m with
  | zero => intro st; exact (takeS_suf _ _).trans ((takeS_suf _ _).trans (takeS_suf _ _))
  | succ m ih =>
    intro st
    rw [marksS]
    split
    · exact (ih _).trans (addS_left' _ _ _ (takeS_suf _ _))
    · split
      · refine (ih _).trans ?_
        rw [plus_left]
        exact (takeS_suf _ _).trans (takeS_suf _ _)
      · split
        · refine (ih _).trans ?_
          rw [questS, pairS, addS_left, addS_left]
          exact (takeS_suf _ _).trans ((takeS_suf _ _).trans (takeS_suf _ _))
        · exact (takeS_suf _ _).trans ((takeS_suf _ _).trans (takeS_suf _ _))
theorem item_suf (ex : PS → Bool × PS) (h : ∀ st : PS, (ex st).2.left <:+ st.left) (st : PS) : (itemS ex st).2.left <:+ st.left := by
  unfold itemS
  split
  · exact (marks_suf _ _ _).trans (atom_suf ex h st)
  · exact atom_suf ex h st
theorem loop_suf (c : UInt8) (kind : Int) (part : PS → Bool × PS) (h : ∀ st : PS, (part st).2.left <:+ st.left) (m : Nat) : ∀ st : PS, (loopS c kind part m st).2.left <:+ st.left := by
  induction m with
  | zero => intro st; exact takeS_suf _ _
  | succ m ih =>
    intro st
    rw [loopS]
    split
    · split
      · exact (ih _).trans (addS_left' _ _ _ ((h _).trans (takeS_suf _ _)))
      · exact (h _).trans (takeS_suf _ _)
    · exact takeS_suf _ _
theorem parted_suf (c : UInt8) (kind : Int) (part : PS → Bool × PS) (h : ∀ st : PS, (part st).2.left <:+ st.left) (st : PS) : (partedS c kind part st).2.left <:+ st.left := by
  unfold partedS
  split
  · exact (loop_suf c kind part h _ _).trans (h st)
  · exact h st
theorem expr_suf (n : Nat) : ∀ st : PS, (exprS n st).2.left <:+ st.left := by
  induction n with
  | zero => intro st; exact List.suffix_refl _
  | succ n ih => exact parted_suf _ _ _ (parted_suf _ _ _ (item_suf _ ih))
set_option maxHeartbeats 2000000 in
theorem seq_any (n : Nat) (hp : PartC 74 (itemS (exprS n)) (n + 1)) : PartC 55 (seqS (exprS n)) (n + 1) := by
  intro rb st w h hn hg
  have H := Lib.hid (parted_any (n + 1) 74 (itemS (exprS n)) 44 44 3 (by decide) (fun args w => enters_of Try.func74 (by kernel_rfl) rfl args w) hp (item_suf _ (expr_suf n)) rb st w h hn hg)
  clear h hn hg hp
  obtain ⟨F, hF⟩ : ∃ F, F = seqS (exprS n) st := ⟨_, rfl⟩
  rw [show partedS 44 3 (itemS (exprS n)) st = F from hF.symm] at H
  rw [← hF]
  clear hF
  go_enter Try.func55, Try.ntmps55
  go_wp2_with fail
  refine H.out.mono ?_
  rintro e w2 hp
  have HP := Lib.hid hp
  obtain ⟨rfl, -, -⟩ := hp
  go_wp2_with fail
  go_ret
  exact HP.out
set_option maxHeartbeats 2000000 in
theorem exp_any (n : Nat) (hp : PartC 55 (seqS (exprS n)) (n + 1)) : PartC 36 (exprS (n + 1)) (n + 1) := by
  intro rb st w h hn hg
  have H := Lib.hid (parted_any (n + 1) 55 (seqS (exprS n)) 124 124 4 (by decide) (fun args w => enters_of Try.func55 (by kernel_rfl) rfl args w) hp (parted_suf _ _ _ (item_suf _ (expr_suf n))) rb st w h hn hg)
  clear h hn hg hp
  obtain ⟨F, hF⟩ : ∃ F, F = exprS (n + 1) st := ⟨_, rfl⟩
  rw [show partedS 124 4 (seqS (exprS n)) st = F from hF.symm] at H
  rw [← hF]
  clear hF
  go_enter Try.func36, Try.ntmps36
  go_wp2_with fail
  refine H.out.mono ?_
  rintro e w2 hp
  have HP := Lib.hid hp
  obtain ⟨rfl, -, -⟩ := hp
  go_wp2_with fail
  go_ret
  exact HP.out
theorem expr_any : ∀ n, PartC 36 (exprS n) n := by
  intro n
  induction n with
  | zero => intro rb st w h hn hg; omega
  | succ n ih => exact exp_any n (seq_any n (item_any n (atom_any n ih) (atom_suf _ (expr_suf n))))
end Go.Proofs.Ytnaimmhdpjggmaa.U
