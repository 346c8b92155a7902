/- The contracts of the kinds of characters, of names.all, Is and Blank. -/
import Derived.Test.YtnaimmhdpjggmaaB0
namespace Go.Proofs.Ytnaimmhdpjggmaa.U
open Go.RowKit Go.Shelf


set_option maxHeartbeats 1000000 in
theorem letter_any (c : Int) (w : World) : Calls Try.prog 40 #[.int .i32 c] w fun e w' => e = .returned (.bool (letterI c)) ∧ Below w.heap.size w w' := by
  rcases (show c < 65 ∨ (65 ≤ c ∧ c ≤ 90) ∨ (91 ≤ c ∧ c ≤ 94) ∨ c = 95 ∨ c = 96 ∨ (97 ≤ c ∧ c ≤ 122) ∨ 122 < c by omega) with h | ⟨h, h'⟩ | ⟨h, h'⟩ | h | h | ⟨h, h'⟩ | h
  all_goals
    first
      | (have hv : letterI c = true := by (simp only [letterI, decide_eq_true_eq]; omega)
         rw [hv]; clear hv)
      | (have hv : letterI c = false := by (simp only [letterI, decide_eq_false_iff_not]; omega)
         rw [hv]; clear hv)
    first | subst h | skip
    go_enter Try.func40, Try.ntmps40
    go_wp2
    go_ret
    refine ⟨?_, Below.refl _ _⟩
    first | rfl | (simp; done) | (simp; omega)

set_option maxHeartbeats 1000000 in
theorem blank_any (c : Int) (w : World) : Calls Try.prog 56 #[.int .i32 c] w fun e w' => e = .returned (.bool (blankI c)) ∧ Below w.heap.size w w' := by
  rcases (show c = 9 ∨ c = 10 ∨ c = 13 ∨ c = 32 ∨ (c ≠ 9 ∧ c ≠ 10 ∧ c ≠ 13 ∧ c ≠ 32) by omega) with h | h | h | h | ⟨h, h1, h2, h3⟩
  all_goals
    first
      | (have hv : blankI c = true := by (simp only [blankI, decide_eq_true_eq]; omega)
         rw [hv]; clear hv)
      | (have hv : blankI c = false := by (simp only [blankI, decide_eq_false_iff_not]; omega)
         rw [hv]; clear hv)
    first | subst h | skip
    go_enter Try.func56, Try.ntmps56
    go_wp2
    go_ret
    refine ⟨?_, Below.refl _ _⟩
    first | rfl | (simp; done) | (simp; omega)

set_option maxHeartbeats 1000000 in
theorem named_any (c : Int) (w : World) : Calls Try.prog 41 #[.int .i32 c] w fun e w' => e = .returned (.bool (namedI c)) ∧ Below w.heap.size w w' := by
  by_cases hl : letterI c = true
  · have hv : namedI c = true := by
      simp only [letterI, decide_eq_true_eq] at hl
      simp only [namedI, decide_eq_true_eq]; omega
    rw [hv]; clear hv
    go_enter Try.func41, Try.ntmps41
    go_wp2_with fail
    refine (letter_any _ _).mono ?_
    rintro e w2 ⟨rfl, hb⟩
    rw [hl]
    go_wp2
    go_ret
    exact ⟨rfl, hb⟩
  · have hf : letterI c = false := by simpa using hl
    have hv : namedI c = decide ((48 ≤ c ∧ c ≤ 57) ∨ c = 45 ∨ c = 46) := by
      simp only [letterI, decide_eq_true_eq] at hl
      simp only [namedI, decide_eq_decide]; omega
    rw [hv]; clear hv hl
    rcases (show (48 ≤ c ∧ c ≤ 57) ∨ c = 45 ∨ c = 46 ∨ (c < 48 ∧ c ≠ 45 ∧ c ≠ 46) ∨ 57 < c by omega) with h | h | h | h | h
    all_goals
      first
        | (have hv : decide ((48 ≤ c ∧ c ≤ 57) ∨ c = 45 ∨ c = 46) = true := by (simp only [decide_eq_true_eq]; omega)
           rw [hv]; clear hv)
        | (have hv : decide ((48 ≤ c ∧ c ≤ 57) ∨ c = 45 ∨ c = 46) = false := by (simp only [decide_eq_false_iff_not]; omega)
           rw [hv]; clear hv)
      first | subst h | skip
      go_enter Try.func41, Try.ntmps41
      go_wp2_with fail
      refine (letter_any _ _).mono ?_
      rintro e w2 ⟨rfl, hb⟩
      rw [hf]
      go_wp2
      go_ret
      refine ⟨?_, hb⟩
      first | rfl | (simp; done) | (simp; omega)

/-- A kind that the function g tells, and that no number from 128 on is of. -/
structure IsKind (g : Nat) (p : Int → Bool) : Prop where
  enters : ∀ args w, (callFunc g args).run Try.prog w = .ok (.enter g args) w
  tells : ∀ c w, Calls Try.prog g #[.int .i32 c] w fun e w' => e = .returned (.bool (p c)) ∧ Below w.heap.size w w'
  high : ∀ c, 128 ≤ c → p c = false

theorem kind_letter : IsKind 40 letterI := ⟨enters_of Try.func40 (by kernel_rfl) rfl, letter_any, fun c h => by simp only [letterI, decide_eq_false_iff_not]; omega⟩
theorem kind_named : IsKind 41 namedI := ⟨enters_of Try.func41 (by kernel_rfl) rfl, named_any, fun c h => by simp only [namedI, decide_eq_false_iff_not]; omega⟩
theorem kind_blank : IsKind 56 blankI := ⟨enters_of Try.func56 (by kernel_rfl) rfl, blank_any, fun c h => by simp only [blankI, decide_eq_false_iff_not]; omega⟩

set_option maxHeartbeats 2000000 in
theorem all_any (g : Nat) (p : Int → Bool) (hk : IsKind g p) (s : ByteArray) (w : World) :
    Calls Try.prog 39 #[.string s, .func (.func g) #[] #[]] w fun e w' => e = .returned (.bool (allL p (bts s))) ∧ Below w.heap.size w w' := by
  have eg := hk.enters
  go_enter Try.func39, Try.ntmps39
  go_wp2
  go_loopw [] (fun wr => ∃ pos : Nat, pos ≤ s.size ∧ wr.heap[w.heap.size]? = some (.stringIter s pos) ∧ Below w.heap.size w wr ∧ allL p ((bts s).take pos) = true) (fun wr => s.size - wr.iterPos w.heap.size)
  case atStart =>
    refine ⟨0, by omega, ?_, (Below.refl _ w).alloc (Nat.le_refl _) _, rfl⟩
    have := World.iter_heap w s 0
    simpa using this
  case round =>
    obtain ⟨pos, hle, hit, hB, hall⟩ := hrel
    by_cases hp : pos < s.size
    · have hnx : ∀ ty, (Instr.next (.pointer (some ⟨w.heap.size, 0, none⟩)) true ty).run Try.prog wr = _ := fun ty => Lib.run_next_any_at wr w.heap.size s pos ty hit hp
      have hit2 := Lib.iterAt_heap wr w.heap.size s pos (pos + (Utf8.decode s pos).2) hit
      have hB2 := Lib.below_iterAt hB (k := w.heap.size) (Nat.le_refl _) s (pos + (Utf8.decode s pos).2)
      have hlt2 : w.heap.size < (wr.iterAt w.heap.size s (pos + (Utf8.decode s pos).2)).heap.size := (Array.getElem?_eq_some_iff.1 hit2).1
      have hke := hk.tells
      have hfact : (p (Utf8.decode s pos).1 = false → allL p (bts s) = false) ∧ (p (Utf8.decode s pos).1 = true → (Utf8.decode s pos).2 = 1 ∧ allL p ((bts s).take (pos + 1)) = true) := by
        by_cases h8 : (s[pos]'hp).toNat < 128
        · rw [decode_ascii s pos hp h8]
          refine ⟨fun h => allL_false s pos hp h, fun h => ⟨rfl, ?_⟩⟩
          rw [bts_take s pos hp]
          unfold allL at hall ⊢
          rw [List.all_append, hall]
          simpa using h
        · have hd := decode_high s pos hp (by omega)
          refine ⟨fun _ => allL_false s pos hp (hk.high _ (by omega)), fun h => ?_⟩
          have := hk.high ((Utf8.decode s pos).1 : Int) (by omega)
          rw [this] at h
          cases h
      obtain ⟨hf0, hf1⟩ := hfact
      obtain ⟨r, hr⟩ : ∃ r, r = ((Utf8.decode s pos).1 : Int) := ⟨_, rfl⟩
      rw [← hr] at hf0 hf1 hnx
      clear hr
      by_cases hpr : p r = true
      · obtain ⟨h1, h2⟩ := hf1 hpr
        rw [h1] at hnx hit2 hB2 hlt2
        go_wp2_with fail
        refine (hke _ _).mono ?_
        rintro e w2 ⟨rfl, hb⟩
        rw [hpr]
        go_wp2
        go_roundw
        case rel => exact ⟨pos + 1, by omega, (hb.block _ hlt2).trans hit2, th hB2 (by omega) hb, h2⟩
        case measure =>
          simp only [World.iterPos, (hb.block _ hlt2).trans hit2, hit]
          omega
      · have hpf : p r = false := by simpa using hpr
        have hres := hf0 hpf
        go_wp2_with fail
        refine (hke _ _).mono ?_
        rintro e w2 ⟨rfl, hb⟩
        rw [hpf]
        go_wp2
        go_ret
        exact ⟨by rw [hres]; rfl, th hB2 (by omega) hb⟩
    · have hnx : ∀ ty, (Instr.next (.pointer (some ⟨w.heap.size, 0, none⟩)) true ty).run Try.prog wr = _ := fun ty => Lib.run_next_end_at wr w.heap.size s pos ty hit hp
      have hres : allL p (bts s) = true := by rw [← hall, List.take_of_length_le (by rw [bts_len]; omega)]
      go_wp2
      go_ret
      exact ⟨by rw [hres]; rfl, hB⟩

theorem blankS_any (s : ByteArray) (w : World) : Calls Try.prog 37 #[.string s] w fun e w' => e = .returned (.bool (allL blankI (bts s))) ∧ Below w.heap.size w w' := by
  go_enter Try.func37, Try.ntmps37
  go_wp2_with fail
  refine (all_any 56 blankI kind_blank _ _).mono ?_
  rintro e w2 ⟨rfl, hb⟩
  go_wp2
  go_ret
  exact ⟨rfl, hb⟩


set_option maxHeartbeats 1000000 in
theorem isName_any (s : ByteArray) (w : World) : Calls Try.prog 22 #[.string s] w fun e w' => e = .returned (.bool (nameL (bts s))) ∧ Below w.heap.size w w' := by
  have hlen := bts_len s
  by_cases h0 : s.size = 0
  · have hs : s = ⟨#[]⟩ := bts_inj (by rw [bts_mk]; exact List.eq_nil_of_length_eq_zero (hlen.trans h0))
    subst hs
    go_enter Try.func22, Try.ntmps22
    go_wp2
    go_ret
    exact ⟨rfl, Below.refl _ _⟩
  · have hne : s ≠ ⟨#[]⟩ := by rintro rfl; exact h0 rfl
    have hne2 := emp_no h0
    by_cases h64 : 64 < s.size
    · have hv : nameL (bts s) = false := by unfold nameL; rw [hlen, decide_eq_false (by omega)]; rfl
      rw [hv]
      go_enter Try.func22, Try.ntmps22
      go_wp2
      go_ret
      exact ⟨rfl, Below.refl _ _⟩
    · have hv : nameL (bts s) = (allL letterI ((bts s).take 1) && allL namedI (bts s)) := by unfold nameL; rw [hlen, decide_eq_true (by omega)]; rfl
      rw [hv, ← bts_one]
      clear hv
      cases hl : allL letterI (bts (s.extract 0 1))
      · go_enter Try.func22, Try.ntmps22
        go_wp2_with fail
        refine (all_any 40 letterI kind_letter _ _).mono ?_
        rintro e w2 ⟨rfl, hb⟩
        rw [hl]
        go_wp2
        go_ret
        exact ⟨rfl, hb⟩
      · go_enter Try.func22, Try.ntmps22
        go_wp2_with fail
        refine (all_any 40 letterI kind_letter _ _).mono ?_
        rintro e w2 ⟨rfl, hb⟩
        rw [hl]
        go_wp2_with fail
        refine (all_any 41 namedI kind_named _ _).mono ?_
        rintro e w3 ⟨rfl, hb3⟩
        go_wp2
        go_ret
        exact ⟨rfl, hb.trans (hb3.mono hb.size)⟩
end Go.Proofs.Ytnaimmhdpjggmaa.U
