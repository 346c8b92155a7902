/- container/heap over what its methods answer: Push, Pop. -/
import Derived.Test.YtodjfebceljjgaaH2
namespace Go.Proofs.Ytodjfebceljjgaa.U
open Go.RowKit

variable {α : Type} [Inhabited α]
def LenC (q : Value) (I : Array α → World → Prop) (f : Nat) : Prop :=
  ∀ (xs : Array α) (W : World), I xs W → Calls Try.prog f #[q] W fun e w' => e = .returned (.int .i64 xs.size) ∧ I xs w'
/-- What a value's methods answer while its things lie at one place. -/
structure Good (q : Value) (lt : α → α → Bool) (I : Array α → World → Prop) (fn fl fs : Nat) : Prop where
  len : LenC q I fn
  less : LessC q lt I fl
  swap : SwapC q I fs
structure Disps (T : TypeId) (q : Value) (fn fl fs fp fo : Nat) : Prop where
  len : Disp T q "Len" fn
  less : Disp T q "Less" fl
  swap : Disp T q "Swap" fs
  push : Disp T q "Push" fp
  pop : Disp T q "Pop" fo
omit [Inhabited α] in
theorem push_perm (xs : Array α) (x : α) : (xs.push x).toList.Perm (x :: xs.toList) := by
  rw [Array.toList_push]
  exact List.perm_append_comm
theorem heap_push {lt : α → α → Bool} {xs : Array α} (x : α) (h : HeapF lt (fun k => xs[k]!) xs.size) : UpF lt (fun k => (xs.push x)[k]!) (xs.push x).size xs.size := by
  rw [Array.size_push]
  refine up_congr (up_snoc (f := fun k => (xs.push x)[k]!) (heap_congr h (fun k hk => ?_))) (by omega) (fun _ _ => rfl)
  change (xs.push x)[k]! = xs[k]!
  rw [getElem!_pos xs k hk, getElem!_pos _ k (by simp; omega), Array.getElem_push_lt hk]
theorem pop_heap {lt : α → α → Bool} {xs ys : Array α} {n : Nat} (hn : xs.size = n + 1) (h : Same2 n ys (xs.swap 0 n (by omega) (by omega))) (hh : HeapF lt (fun k => ys[k]!) n) :
    ys[n]! = xs[0]! ∧ HeapF lt (fun k => ys.pop[k]!) ys.pop.size ∧ xs.toList.Perm (xs[0]! :: ys.pop.toList) ∧ ys.pop.size = n := by
  have hs : ys.size = n + 1 := by have := h.1; simp at this; omega
  have h0 : ys[n]! = xs[0]! := by
    rw [h.2.2 n (Nat.le_refl _) (by simp; omega), get_swap xs 0 n _ _ n (by omega)]
    unfold swapF
    by_cases e : n = 0
    · subst e; simp
    · rw [if_neg (by omega), if_pos rfl]
  have hp : ys.pop.size = n := by simp [hs]
  refine ⟨h0, ?_, ?_, hp⟩
  · rw [hp]
    refine heap_congr hh (fun k hk => ?_)
    change ys.pop[k]! = ys[k]!
    rw [getElem!_pos ys k (by omega), getElem!_pos _ k (by omega), Array.getElem_pop]
  · have e1 : ys.toList = ys.pop.toList ++ [ys[n]!] := by
      rw [Array.toList_pop, getElem!_pos ys n (by omega)]
      have e2 : ys.toList ≠ [] := by intro e; have := congrArg List.length e; simp only [Array.length_toList, List.length_nil] at this; omega
      have e3 := List.dropLast_concat_getLast e2
      rw [List.getLast_eq_getElem] at e3
      simp only [Array.length_toList, Array.getElem_toList, hs, Nat.add_sub_cancel] at e3
      exact e3.symm
    have e2 : ys.toList.Perm xs.toList := h.2.1.trans (perm_swap xs 0 n _ _)
    rw [e1, h0] at e2
    exact e2.symm.trans List.perm_append_comm
set_option maxHeartbeats 1000000 in
set_option maxRecDepth 10000 in
theorem hpush_any {T : TypeId} {q : Value} {lt : α → α → Bool} {F : Array α → World → Prop} {fn fl fs fp fo : Nat} (ho : Ord lt) (hd : Disps T q fn fl fs fp fo)
    (xs : Array α) (x : α) (xv : Value) (w : World) (hh : HeapF lt (fun k => xs[k]!) xs.size) (hmax : xs.size < 1000000)
    (hp : Calls Try.prog fp #[q, xv] w fun e w' => e = .returned (.tuple #[]) ∧ ∃ J : Array α → World → Prop, Good q lt J fn fl fs ∧ J (xs.push x) w' ∧ ∀ ys w'', J ys w'' → F ys w'') :
    Calls Try.prog 28 #[.iface T q, xv] w fun e w' => e = .returned (.tuple #[]) ∧ ∃ ys : Array α, F ys w' ∧ ys.toList.Perm (x :: xs.toList) ∧ HeapF lt (fun k => ys[k]!) ys.size := by
  have hm1 := hd.push.meth
  have he1 := hd.push.enter
  have hm2 := hd.len.meth
  have he2 := hd.len.enter
  have HD := Lib.hid hd
  have HO := Lib.hid ho
  have HP := Lib.hid hp
  have HU := Lib.hid (heap_push x hh)
  have hw1 : wrap64 ((xs.size : Int)) = (xs.size : Int) := w64 _ (by omega)
  have HMX := Lib.hid hmax
  clear hd ho hp hh hmax
  go_enter Try.func28, Try.ntmps28
  go_wp2_with fail
  refine HP.out.mono ?_
  rintro e w1 ⟨rfl, J, hg, hj, hf⟩
  have HG := Lib.hid hg
  have HF := Lib.hid hf
  have HLEN := Lib.hid (hg.len _ _ hj)
  have hsz : (xs.push x).size = xs.size + 1 := Array.size_push _
  rw [hsz] at HLEN
  clear hg hf hj hsz
  go_wp2_with fail
  refine HLEN.out.mono ?_
  rintro e w2 ⟨rfl, hj2⟩
  have HUP := Lib.hid (up_any HO.out HD.out.less HD.out.swap HG.out.less HG.out.swap (xs.push x) xs.size w2 hj2 (by simp) (by have := HMX.out; simp; omega) HU.out)
  clear hj2
  go_wp2_with (go_at_call 52; refine HUP.out.mono ?_; rintro e w3 ⟨rfl, ys, hj3, hp3, hh3⟩)
  go_end0
  exact ⟨rfl, ys, HF.out _ _ hj3, hp3.trans (push_perm xs x), hh3⟩
set_option maxHeartbeats 1000000 in
set_option maxRecDepth 10000 in
theorem hpop_any {T : TypeId} {q : Value} {lt : α → α → Bool} {I F : Array α → World → Prop} {enc : α → Value} {fn fl fs fp fo : Nat} (ho : Ord lt) (hd : Disps T q fn fl fs fp fo) (hg : Good q lt I fn fl fs)
    (xs : Array α) (n : Nat) (w : World) (hi : I xs w) (hn : xs.size = n + 1) (hh : HeapF lt (fun k => xs[k]!) xs.size) (hmax : xs.size < 1000000)
    (hp : ∀ ys W, I ys W → ys.size = n + 1 → Calls Try.prog fo #[q] W fun e w' => e = .returned (enc ys[n]!) ∧ F ys.pop w') :
    Calls Try.prog 30 #[.iface T q] w fun e w' => e = .returned (enc xs[0]!) ∧ ∃ ys : Array α, F ys w' ∧ ys.size = n ∧ xs.toList.Perm (xs[0]! :: ys.toList) ∧ HeapF lt (fun k => ys[k]!) ys.size := by
  have hm1 := hd.len.meth
  have he1 := hd.len.enter
  have hm2 := hd.swap.meth
  have he2 := hd.swap.enter
  have hm3 := hd.pop.meth
  have he3 := hd.pop.enter
  have HD := Lib.hid hd
  have HO := Lib.hid ho
  have HP := Lib.hid hp
  have HG := Lib.hid hg
  have HN := Lib.hid hn
  have hw1 : wrap64 (n : Int) = (n : Int) := w64 _ (by omega)
  have HMX := Lib.hid hmax
  have HLEN := Lib.hid (hg.len _ _ hi)
  rw [hn] at HLEN
  have H0 : Hid (0 < xs.size) := Lib.hid (by omega)
  have H1 : Hid (n < xs.size) := Lib.hid (by omega)
  have HU := Lib.hid (down_congr (g := fun k => (xs.swap 0 n H0.out H1.out)[k]!) (down_top (n := n) (by rw [← hn]; exact hh)) (by omega) (fun k hk => get_swap xs 0 n H0.out H1.out k (by omega)))
  have HS := Lib.hid (fun W (h : I xs W) => hg.swap xs W 0 n H0.out H1.out h)
  clear hd ho hp hh hmax hg hi hn
  go_enter Try.func30, Try.ntmps30
  go_wp2_with fail
  refine HLEN.out.mono ?_
  rintro e w1 ⟨rfl, hi1⟩
  have HS1 := Lib.hid (HS.out w1 hi1)
  clear hi1
  go_wp2_with fail
  refine HS1.out.mono ?_
  rintro e w2 ⟨rfl, hi2⟩
  have HDN := Lib.hid (down_any HO.out HD.out.less HD.out.swap HG.out.less HG.out.swap _ n w2 hi2 (by have := HN.out; simp; omega) (by have := HMX.out; simp; omega) HU.out)
  clear hi2
  go_wp2_with (go_at_call 53; refine HDN.out.mono ?_; rintro e w3 ⟨⟨bb, rfl⟩, ys, hj3, hp3, hh3⟩)
  have HPL := Lib.hid (pop_heap HN.out hp3 hh3)
  have HPO := Lib.hid (HP.out ys w3 hj3 (by have := hp3.1; have := HN.out; simp at *; omega))
  rw [HPL.out.1] at HPO
  clear hj3 hp3 hh3
  go_wp2_with fail
  refine HPO.out.mono ?_
  rintro e w4 ⟨rfl, hf4⟩
  have HF4 := Lib.hid hf4
  clear hf4
  go_wp2_with fail
  go_ret
  exact ⟨rfl, _, HF4.out, HPL.out.2.2.2, HPL.out.2.2.1, HPL.out.2.1⟩
end Go.Proofs.Ytodjfebceljjgaa.U
