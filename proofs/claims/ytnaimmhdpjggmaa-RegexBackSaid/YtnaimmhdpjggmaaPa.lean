/- A reader's rows of parts: sequences and expressions. -/
import Derived.Test.YtnaimmhdpjggmaaMz
namespace Go.Proofs.Ytnaimmhdpjggmaa.U
open Go.RowKit

theorem loop_stop {c : UInt8} {kind : Int} {part : PS → Bool × PS} {m : Nat} {s : PS} (h : takeB c s.left = false) : loopS c kind part m s = (true, takeS c s) := by
  cases m with
  | zero => rw [loopS]
  | succ m => rw [loopS, if_neg (by rw [h]; simp)]
theorem loop_go {c : UInt8} {kind : Int} {part : PS → Bool × PS} {m : Nat} {s : PS} (h : takeB c s.left = true) (hm : s.left.length ≤ m) :
    ∃ m', m = m' + 1 ∧ loopS c kind part m s = if (part (takeS c s)).1 = true then loopS c kind part m' (pairS (part (takeS c s)).2 kind (lastS s)) else (false, (part (takeS c s)).2) := by
  have h1 := take_len h
  obtain ⟨m', rfl⟩ : ∃ k, m = k + 1 := ⟨m - 1, by omega⟩
  exact ⟨m', rfl, by rw [loopS, if_pos h]⟩
structure LpI (w wr : World) (rb : Nat) (left : Wd) (c : UInt8) (kind : Int) (part : PS → Bool × PS) (F : Bool × PS) (m : Nat) (s : PS) : Prop where
  rd : RdM wr rb s
  suf : s.left <:+ left
  fuel : s.left.length ≤ m
  eq : loopS c kind part m s = F
  bel : Below rb w wr
set_option maxHeartbeats 4000000 in
set_option maxRecDepth 10000 in
theorem parted_any (n : Nat) (f : FuncId) (part : PS → Bool × PS) (c : UInt8) (ck kind : Int) (hck : (c.toNat : Int) = ck) (hf : ∀ args w, (callFunc f args).run Try.prog w = .ok (.enter f args) w) (hp : PartC f part n) (hsuf : ∀ st : PS, (part st).2.left <:+ st.left)
    (rb : Nat) (st : PS) (w : World) (h : RdM w rb st) (hn : st.left.length < n) (hg : GW st.left) :
    Calls Try.prog 54 #[.pointer (some ⟨rb, 0, none⟩), .int .u8 ck, .int .i64 kind, .func (.func f) #[.pointer (some ⟨rb, 0, none⟩)] #[]] w fun e w' => ReadPost (partedS c kind part st) rb w e w' := by
  have HP0 := Lib.hid (hp rb st w h hn hg)
  have HSUF := Lib.hid hsuf
  have HPT := Lib.hid hp
  have HCK := Lib.hid hck
  obtain ⟨q, hq⟩ : ∃ q, q = part st := ⟨_, rfl⟩
  have HQ : Hid (q.2.left <:+ st.left) := Lib.hid (by rw [hq]; exact hsuf st)
  obtain ⟨F, hF⟩ : ∃ F, F = partedS c kind part st := ⟨_, rfl⟩
  have HF : Hid (F = if q.1 = true then loopS c kind part q.2.left.length q.2 else (false, q.2)) := Lib.hid (by rw [hF, hq]; rfl)
  rw [← hq] at HP0
  have HG := Lib.hid hg
  have HN := Lib.hid hn
  rw [← hF]
  clear h hn hg hq hsuf hF hp hck
  go_enter Try.func54, Try.ntmps54
  go_wp2_with fail
  refine HP0.out.mono ?_
  rintro e w1 ⟨rfl, hr, hb⟩
  have HR1 := Lib.hid hr
  have HB1 := Lib.hid hb
  clear hr hb
  cases hq1 : q.1 with
  | false =>
    rw [hq1] at HF
    clear hq1
    go_wp2_with fail
    go_ret
    unfold ReadPost
    rw [HF.out]
    exact ⟨rfl, HR1.out, HB1.out⟩
  | true =>
    rw [hq1] at HF
    clear hq1
    go_wp2_with fail
    go_loopw [] (fun wr => Hid (∃ m s, LpI w wr rb st.left c kind part F m s)) (fun wr => leftLen rb wr)
    case atStart => exact Lib.hid ⟨q.2.left.length, q.2, HR1.out, HQ.out, Nat.le_refl _, by rw [HF.out]; simp, HB1.out⟩
    case round =>
      obtain ⟨m, s, hI⟩ := hrel.out
      have HI := Lib.hid hI
      have HT := Lib.hid (take_lit c ck HCK.out rb s wr hI.rd)
      obtain ⟨s1, hs1⟩ : ∃ s1, s1 = takeS c s := ⟨_, rfl⟩
      have g1 : s1.left <:+ s.left := by rw [hs1]; exact take_suf c s.left
      have HL1 : Hid (lastS s1 = lastS s) := Lib.hid (by rw [hs1]; rfl)
      have HS1 := Lib.hid hs1
      have G1 := Lib.hid g1
      have HLEN := Lib.hid (rd_left hI.rd)
      clear hI hrel hs1 g1
      go_wp2_with fail
      refine HT.out.mono ?_
      rintro e w2 ⟨rfl, hr, hb⟩
      rw [← HS1.out] at hr
      have HR2 := Lib.hid hr
      have HB2 := Lib.hid (HI.out.bel.trans hb)
      clear hr hb
      cases ht : takeB c s.left with
      | false =>
        have HF2 : Hid (F = (true, s1)) := Lib.hid (by rw [← HI.out.eq, HS1.out]; exact loop_stop ht)
        clear ht
        go_wp2_with fail
        go_ret
        unfold ReadPost
        rw [HF2.out]
        exact ⟨rfl, HR2.out, HB2.out⟩
      | true =>
        have HTK := Lib.hid ht
        clear ht
        obtain ⟨m', hm', he⟩ := loop_go (kind := kind) (part := part) HTK.out HI.out.fuel
        have HM := Lib.hid hm'
        rw [HI.out.eq, ← HS1.out] at he
        have hlt1 : s1.left.length < s.left.length := by rw [HS1.out]; exact take_len HTK.out
        have HLT := Lib.hid hlt1
        have HLAST := Lib.hid (last_any rb s1 w2 HR2.out)
        have HPC := Lib.hid (HPT.out rb s1 w2 HR2.out (Nat.lt_of_lt_of_le hlt1 (Nat.le_trans HI.out.suf.length_le (Nat.le_of_lt HN.out))) (HG.out.suf (G1.out.trans HI.out.suf)))
        obtain ⟨q2, hq2⟩ : ∃ q2, q2 = part s1 := ⟨_, rfl⟩
        have HQ2 : Hid (q2.2.left <:+ s1.left) := Lib.hid (by rw [hq2]; exact HSUF.out s1)
        rw [← hq2] at he HPC
        have HE := Lib.hid he
        clear he hm' hlt1 hq2
        go_wp2_with fail
        refine HLAST.out.mono ?_
        rintro e w3 ⟨rfl, rfl⟩
        go_wp2_with fail
        refine HPC.out.mono ?_
        rintro e w4 ⟨rfl, hr, hb⟩
        have HR4 := Lib.hid hr
        have HB4 := Lib.hid (HB2.out.trans hb)
        clear hr hb
        cases hq21 : q2.1 with
        | false =>
          rw [hq21] at HE
          clear hq21
          go_wp2_with fail
          go_ret
          unfold ReadPost
          rw [HE.out]
          exact ⟨rfl, HR4.out, HB4.out⟩
        | true =>
          rw [hq21] at HE
          clear hq21
          have HPAIR := Lib.hid (pair_any rb kind (lastS s1) q2.2 w4 HR4.out)
          go_wp2_with fail
          refine HPAIR.out.mono ?_
          rintro e w5 hp
          have HP := Lib.hid hp
          obtain ⟨rfl, -, -⟩ := hp
          go_wp2_with fail
          have hlen : (pairS q2.2 kind (lastS s1)).left.length < s.left.length := by
            rw [pairS, addS_left]
            exact Nat.lt_of_le_of_lt HQ2.out.length_le HLT.out
          go_roundw
          case rel =>
            refine Lib.hid ⟨m', pairS q2.2 kind (lastS s1), HP.out.2.1, ?_, ?_, ?_, HB4.out.trans HP.out.2.2⟩
            · rw [pairS, addS_left]; exact HQ2.out.trans (G1.out.trans HI.out.suf)
            · have h8 := HI.out.fuel
              have h9 := HM.out
              omega
            · rw [HL1.out, HE.out]; simp
          case measure => rw [rd_left HP.out.2.1, HLEN.out]; exact hlen
end Go.Proofs.Ytnaimmhdpjggmaa.U
