/- A reader's atoms. -/
import Derived.Test.YtnaimmhdpjggmaaMx
namespace Go.Proofs.Ytnaimmhdpjggmaa.U
open Go.RowKit

theorem skip_suf (s : Wd) : skipW s <:+ s := List.dropWhile_suffix _
theorem take_suf (c : UInt8) (s : Wd) : takeR c s <:+ s := by
  unfold takeR
  split
  · exact (List.tail_suffix _).trans (skip_suf s)
  · exact skip_suf s
theorem take_len {c : UInt8} {s : Wd} (h : takeB c s = true) : (takeR c s).length < s.length := by
  have h1 := (skip_suf s).length_le
  unfold takeR
  rw [if_pos h]
  unfold takeB at h
  have h2 : (skipW s).head? = some c := by simpa using h
  cases he : skipW s with
  | nil => rw [he] at h2; simp at h2
  | cons x r => rw [he] at h1; simp at h1 ⊢; omega
/-- What is left has no +, and is no longer than a text may be. -/
def GW (s : Wd) : Prop := 43 ∉ s ∧ s.length ≤ 65536
theorem GW.suf {s t : Wd} (h : GW s) (ht : t <:+ s) : GW t := ⟨fun h9 => h.1 (ht.subset h9), Nat.le_trans ht.length_le h.2⟩
theorem no_plus {s : Wd} (h : GW s) : takeB 43 s = false := by
  cases hb : takeB 43 s with
  | false => rfl
  | true =>
    exfalso
    unfold takeB at hb
    have h2 : (skipW s).head? = some 43 := by simpa using hb
    exact h.1 ((skip_suf s).subset (List.mem_of_mem_head? h2))
def ReadPost (f : Bool × PS) (rb : Nat) (w : World) (e : Ending) (w' : World) : Prop := e = .returned (.bool f.1) ∧ RdM w' rb f.2 ∧ Below rb w w'
/-- What reads a part, said of a function. -/
def PartC (f : FuncId) (part : PS → Bool × PS) (n : Nat) : Prop := ∀ (rb : Nat) (st : PS) (w : World), RdM w rb st → st.left.length < n → GW st.left → Calls Try.prog f #[.pointer (some ⟨rb, 0, none⟩)] w fun e w' => ReadPost (part st) rb w e w'
theorem take_lit (c : UInt8) (k : Int) (hk : (c.toNat : Int) = k) (rb : Nat) (st : PS) (w : World) (h : RdM w rb st) : Calls Try.prog 71 #[.pointer (some ⟨rb, 0, none⟩), .int .u8 k] w fun e w' => TakePost rb c st w e w' := by
  rw [← hk]; exact take_any rb c st w h
set_option maxHeartbeats 4000000 in
set_option maxRecDepth 10000 in
theorem atom_any (n : Nat) (ex : PartC 36 (exprS n) n) : PartC 83 (atomS (exprS n)) (n + 1) := by
  intro rb st w h hn hg
  have H33 := Lib.hid (take_lit 33 33 (by decide) rb st w h)
  obtain ⟨st1, hst1⟩ : ∃ s, s = takeS 33 st := ⟨_, rfl⟩
  have HS1 := Lib.hid hst1
  have g1 : st1.left <:+ st.left := by rw [hst1]; exact take_suf 33 st.left
  obtain ⟨st2, hst2⟩ : ∃ s, s = takeS 40 st1 := ⟨_, rfl⟩
  have g2 : st2.left <:+ st1.left := by rw [hst2]; exact take_suf 40 st1.left
  have HS2 := Lib.hid hst2
  obtain ⟨st3, hst3⟩ : ∃ s, s = takeS 41 st2 := ⟨_, rfl⟩
  have g3 : st3.left <:+ st2.left := by rw [hst3]; exact take_suf 41 st2.left
  have HS3 := Lib.hid hst3
  have HA : Hid (atomS (exprS n) st = (if takeB 33 st.left = true then (true, addS st1 [⟨0, [], 0, 0⟩])
    else if takeB 40 st1.left = true then
      (if takeB 41 st2.left = true then (true, addS st3 [⟨1, [], 0, 0⟩])
       else if (exprS n st3).1 = true then (takeB 41 (exprS n st3).2.left, takeS 41 (exprS n st3).2)
       else (false, (exprS n st3).2))
    else wordS st2)) := Lib.hid (by rw [hst3, hst2, hst1]; rfl)
  have HG := Lib.hid hg
  have HN := Lib.hid hn
  have G1 := Lib.hid g1
  have G2 := Lib.hid g2
  have G3 := Lib.hid g3
  have HEX := Lib.hid ex
  clear h hn hg hst1 hst2 hst3 g1 g2 g3 ex
  go_enter Try.func83, Try.ntmps83
  go_wp2_with fail
  refine H33.out.mono ?_
  rintro e w1 ⟨rfl, hr, hb⟩
  rw [← HS1.out] at hr
  have HR1 := Lib.hid hr
  have HB1 := Lib.hid hb
  clear hr hb
  cases h33 : takeB 33 st.left with
  | true =>
    rw [h33] at HA
    have HADD := Lib.hid (add_lit rb st1 ⟨0, [], 0, 0⟩ 45 w1 HR1.out)
    clear h33
    go_wp2_with fail
    refine HADD.out.mono ?_
    rintro e w2 hp
    have HP := Lib.hid hp
    obtain ⟨rfl, -, -⟩ := hp
    go_wp2_with fail
    go_ret
    unfold ReadPost
    rw [HA.out]
    exact ⟨rfl, HP.out.2.1, HB1.out.trans HP.out.2.2⟩
  | false =>
    rw [h33] at HA
    clear h33
    have H40 := Lib.hid (take_lit 40 40 (by decide) rb st1 w1 HR1.out)
    go_wp2_with fail
    refine H40.out.mono ?_
    rintro e w2 ⟨rfl, hr, hb⟩
    rw [← HS2.out] at hr
    have HR2 := Lib.hid hr
    have HB2 := Lib.hid (HB1.out.trans hb)
    clear hr hb
    cases h40 : takeB 40 st1.left with
    | false =>
      rw [h40] at HA
      have HW := Lib.hid (word_any rb st2 w2 HR2.out (HG.out.suf (G2.out.trans G1.out)).2)
      clear h40
      go_wp2_with fail
      refine HW.out.mono ?_
      rintro e w3 hp
      have HP := Lib.hid hp
      obtain ⟨rfl, -, -⟩ := hp
      go_wp2_with fail
      go_ret
      unfold ReadPost
      rw [HA.out]
      exact ⟨rfl, HP.out.2.1, HB2.out.trans HP.out.2.2⟩
    | true =>
      rw [h40] at HA
      have HLT : Hid (st2.left.length < n) := Lib.hid (by
        have h1 := take_len h40
        have h2 : st2.left = takeR 40 st1.left := by rw [HS2.out]; rfl
        rw [← h2] at h1
        have h3 := G1.out.length_le
        have h4 := HN.out
        omega)
      have H41 := Lib.hid (take_lit 41 41 (by decide) rb st2 w2 HR2.out)
      clear h40
      go_wp2_with fail
      refine H41.out.mono ?_
      rintro e w3 ⟨rfl, hr, hb⟩
      rw [← HS3.out] at hr
      have HR3 := Lib.hid hr
      have HB3 := Lib.hid (HB2.out.trans hb)
      clear hr hb
      cases h41 : takeB 41 st2.left with
      | true =>
        rw [h41] at HA
        have HADD := Lib.hid (add_lit rb st3 ⟨1, [], 0, 0⟩ 45 w3 HR3.out)
        clear h41
        go_wp2_with fail
        refine HADD.out.mono ?_
        rintro e w4 hp
        have HP := Lib.hid hp
        obtain ⟨rfl, -, -⟩ := hp
        go_wp2_with fail
        go_ret
        unfold ReadPost
        rw [HA.out]
        exact ⟨rfl, HP.out.2.1, HB3.out.trans HP.out.2.2⟩
      | false =>
        rw [h41] at HA
        clear h41
        have HE := Lib.hid (HEX.out rb st3 w3 HR3.out (Nat.lt_of_le_of_lt G3.out.length_le HLT.out) (HG.out.suf (G3.out.trans (G2.out.trans G1.out))))
        obtain ⟨q, hq⟩ : ∃ q, q = exprS n st3 := ⟨_, rfl⟩
        rw [← hq] at HA HE
        clear hq
        go_wp2_with fail
        refine HE.out.mono ?_
        rintro e w4 ⟨rfl, hr, hb⟩
        have HR4 := Lib.hid hr
        have HB4 := Lib.hid (HB3.out.trans hb)
        clear hr hb
        cases hq1 : q.1 with
        | false =>
          rw [hq1] at HA
          clear hq1
          go_wp2_with fail
          go_ret
          unfold ReadPost
          rw [HA.out]
          exact ⟨rfl, HR4.out, HB4.out⟩
        | true =>
          rw [hq1] at HA
          clear hq1
          have H41b := Lib.hid (take_lit 41 41 (by decide) rb q.2 w4 HR4.out)
          go_wp2_with fail
          refine H41b.out.mono ?_
          rintro e w5 ⟨rfl, hr, hb⟩
          have HR5 := Lib.hid hr
          have HB5 := Lib.hid (HB4.out.trans hb)
          clear hr hb
          go_wp2_with fail
          go_ret
          unfold ReadPost
          rw [HA.out]
          exact ⟨rfl, HR5.out, HB5.out⟩
end Go.Proofs.Ytnaimmhdpjggmaa.U
