/- What is written of an expression is read as one of the same tree: plain. -/
import Derived.Test.YtnaimmhdpjggmaaPf
import Derived.Test.YtnaimmhdpjggmaaRx7
namespace Go.Proofs.Ytnaimmhdpjggmaa.U
open Go.RowKit

theorem par_plus {b : Bool} {x : Wd} (h : (43 : UInt8) ∉ x) : (43 : UInt8) ∉ par b x := by
  unfold par
  split
  · intro h9
    rcases List.mem_cons.1 h9 with h9 | h9
    · revert h9; decide
    · rcases List.mem_append.1 h9 with h9 | h9
      · exact h h9
      · revert h9; decide
  · exact h
theorem txt_plus {t : RE} (h : namesT t = true) : (43 : UInt8) ∉ txt t := by
  induction t with
  | none => decide
  | empty => decide
  | sym s =>
    intro h9
    obtain ⟨x, r, _, _, hall, _⟩ := name_head (s := s) (by simpa [namesT] using h)
    have := hall 43 h9
    revert this; decide
  | cat s t i1 i2 =>
    rw [namesT, Bool.and_eq_true] at h
    intro h9
    rw [txt] at h9
    rcases List.mem_append.1 h9 with h9 | h9
    · exact par_plus (i1 h.1) h9
    · rcases List.mem_cons.1 h9 with h9 | h9
      · revert h9; decide
      · exact par_plus (i2 h.2) h9
  | alt s t i1 i2 =>
    rw [namesT, Bool.and_eq_true] at h
    intro h9
    rw [txt] at h9
    rcases List.mem_append.1 h9 with h9 | h9
    · exact i1 h.1 h9
    · rcases List.mem_cons.1 h9 with h9 | h9
      · revert h9; decide
      · exact par_plus (i2 h.2) h9
  | star s i1 =>
    rw [namesT] at h
    intro h9
    rw [txt] at h9
    rcases List.mem_append.1 h9 with h9 | h9
    · exact par_plus (i1 h) h9
    · revert h9; decide
/-- What holds of an expression that is right, its text, and what is read of that. -/
structure BackF (l q : List Nd) (s : Wd) : Prop where
  text : textP l = s
  plus : (43 : UInt8) ∉ s
  len : s.length ≤ 65536
  pe : parseE s = 0
  pn : parseN s = q
  chk : chkP q = 0
  text2 : textP q = s
  same : q.length = l.length
  mat : ∀ ws, matchP q ws = matchP l ws
  null : nullP q = nullP l
  syms : symP q = symP l
theorem back_has {l : List Nd} (hc : chkP l = 0) (hl : l.length ≤ 24) : ∃ q s, BackF l q s := by
  obtain ⟨hf, hnm, hl2⟩ := chk0 hc
  obtain ⟨t, ht⟩ := sh_of hf (l.length - 1) (by have := form_pos hf; omega)
  have hn : namesT t = true := sh_names hnm ht
  have hz : sz t = l.length := sz_all hf ht
  have hs : sz t ≤ 1024 := by omega
  have hlen : (txt t).length ≤ 65536 := by have := txt_len hn; omega
  have hp := parse_txt hs hn hlen
  have hr := post_root t
  have hqf := post_form t
  have hqc := post_chk hn hs
  refine ⟨post t 0, txt t, ?_, txt_plus hn, hlen, hp.1, hp.2, hqc, ?_, ?_, ?_, ?_, ?_⟩
  · unfold textP; rw [if_pos hc]; exact text_eq ht
  · unfold textP; rw [if_pos hqc]; exact text_eq hr
  · rw [post_len, hz]
  · intro ws
    unfold matchP
    rw [if_pos hc, if_pos hqc, ← match_same hf ht, ← match_same hqf hr]
  · unfold nullP
    rw [if_pos hc, if_pos hqc, ← null_same hf ht, ← null_same hqf hr]
  · unfold symP
    rw [if_pos hc, if_pos hqc]
    exact symR_same (syms_perm hqf hf hr ht)
end Go.Proofs.Ytnaimmhdpjggmaa.U
