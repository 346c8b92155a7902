/- Symbols, whole. -/
import Derived.Test.YtnaimmhdpjggmaaSh
import Derived.Test.YtnaimmhdpjggmaaPe
import Derived.Test.YtnaimmhdpjggmaaRx5
import Derived.Lib.OwnBridge
import Derived.Sort.OwnSorted
import Derived.Sort.KeysCollected
namespace Go.Proofs.Ytnaimmhdpjggmaa.U
open Go.RowKit Go.Shelf Go.Sort

/-- A row of texts of the call's own. -/
def OW (w : World) (B : Nat) (v : Value) (ss : List Wd) : Prop := w.ownsRow B 9 1 v ss.length (ss.map encStr)
theorem OW.vr {w : World} {B : Nat} {v : Value} {ss : List Wd} (h : OW w B v ss) : VR eS w v ss := by
  rcases h.2 with ⟨rfl, h0⟩ | ⟨g, cap, cur, rfl, hr⟩
  · exact ⟨none, 0, by rw [h0], by omega, by unfold maxLen; omega, fun h1 => by omega⟩
  · refine ⟨_, cap, rfl, hr.2.2.1, hr.2.2.2.1, fun _ => ⟨g, 0, rfl, fun i n hn => ?_⟩⟩
    have c := World.ownsRow.cells h (g := g) rfl i (encStr n) (by rw [List.getElem?_map, hn]; rfl)
    rw [add0] at c
    rw [Nat.zero_add]
    exact c
theorem OW.zero {w : World} {B : Nat} {v : Value} (h : OW w B v []) : ∃ p cap, v = .slice p 0 cap ∧ cap ≤ maxLen := by
  rcases h.2 with ⟨rfl, h0⟩ | ⟨g, cap, cur, rfl, hr⟩
  · exact ⟨none, 0, rfl, by unfold maxLen; omega⟩
  · exact ⟨_, cap, rfl, hr.2.2.2.1⟩
/-- The symbols, as they are told. -/
def symR (l : List Nd) : List Wd := Lib.compact ((symsL l).mergeSort fun x y => decide (x ≤ y))
def symP (l : List Nd) : List Wd := if chkP l = 0 then symR l else []
theorem symR_same {l m : List Nd} (h : (symsL l).Perm (symsL m)) : symR l = symR m := by
  have := mergeSort_of_perm h
  unfold symR
  exact congrArg Lib.compact this
theorem comp_nil : Lib.compact (([] : List Wd).mergeSort fun x y => decide (x ≤ y)) = [] := by
  have h := Lib.compact_length_le (([] : List Wd).mergeSort fun x y => decide (x ≤ y))
  rw [List.length_mergeSort] at h
  exact List.eq_nil_of_length_eq_zero (by simpa using h)
def SymPost (l : List Nd) (w : World) (e : Ending) (w' : World) : Prop := ∃ v, e = .returned v ∧ VR eS w' v (symP l) ∧ Below w.heap.size w w'
/-- What the sort and Compact leave. -/
theorem sorted_left {w w1 : World} {g cap nn q : Nat} {os : Array Obj} {ss : List Wd} (hown : OW w1 w.heap.size (.slice (some ⟨g, 0, none⟩) ss.length cap) ss) (hbel : Below w.heap.size w w1) (hbg : w.heap.size ≤ g) :
    OW (putRow encStr (Sort.ahead (grow (putRow encStr (Sort.ahead w1 nn) g 0 (ss.mergeSort fun x y => decide (x ≤ y)).toArray) os) q) g 0 (Lib.compact (ss.mergeSort fun x y => decide (x ≤ y)) ++ List.replicate (ss.length - (Lib.compact (ss.mergeSort fun x y => decide (x ≤ y))).length) []).toArray) w.heap.size
      (.slice (some ⟨g, 0, none⟩) (Lib.compact (ss.mergeSort fun x y => decide (x ≤ y))).length cap) (Lib.compact (ss.mergeSort fun x y => decide (x ≤ y))) ∧
    Below w.heap.size w (putRow encStr (Sort.ahead (grow (putRow encStr (Sort.ahead w1 nn) g 0 (ss.mergeSort fun x y => decide (x ≤ y)).toArray) os) q) g 0 (Lib.compact (ss.mergeSort fun x y => decide (x ≤ y)) ++ List.replicate (ss.length - (Lib.compact (ss.mergeSort fun x y => decide (x ≤ y))).length) []).toArray) := by
  have hl2 : (ss.mergeSort fun x y => decide (x ≤ y)).length = ss.length := List.length_mergeSort ss
  have hle := Lib.compact_length_le (ss.mergeSort fun x y => decide (x ≤ y))
  rcases hown.2 with ⟨h0, _⟩ | ⟨g', cap', cur, hv, hbase, hb, h1, h2, h3, h4⟩
  · cases h0
  cases hv
  have hs := ownsRow_sorted (n := nn) (os := os) (ts := ss.mergeSort fun x y => decide (x ≤ y)) hl2 hbase hb h1 h2 h3
  have hc := Lib.ownsRow_putRow (q := q) (k := (Lib.compact (ss.mergeSort fun x y => decide (x ≤ y))).length) (ys := Lib.compact (ss.mergeSort fun x y => decide (x ≤ y)) ++ List.replicate (ss.length - (Lib.compact (ss.mergeSort fun x y => decide (x ≤ y))).length) []) hs (by simp; omega) (by omega)
  rw [List.take_left] at hc
  exact ⟨hc, Lib.below_putRow (hbel.grown (grownBy_sorted _) hbel.size (fun j hj => by cases hj; exact hbase)) hbg⟩
theorem holds_sorted {w1 : World} {g nn : Nat} {os : Array Obj} {ss : List Wd} (hgl : g < w1.heap.size) (hH : Holds encStr w1 g 0 ss.toArray) :
    Holds encStr (grow (putRow encStr (Sort.ahead w1 nn) g 0 (ss.mergeSort fun x y => decide (x ≤ y)).toArray) os) g 0 (ss.mergeSort fun x y => decide (x ≤ y)).toArray :=
  holds_grow encStr _ os g 0 _ (by simpa [putRow, mapBlock, Sort.ahead] using hgl) (holds_putRow encStr _ g 0 _ _ (holds_ahead encStr w1 nn g 0 _ hH) (by simp))
theorem syms_take {l : List Nd} {k : Nat} {x : Nd} (h : l[k]? = some x) : symsL (l.take (k + 1)) = symsL (l.take k) ++ (if x.op = 2 then [x.sym] else []) := by
  unfold symsL
  rw [List.take_add_one, h, List.filterMap_append]
  congr 1
  by_cases hx : x.op = 2 <;> simp [hx]
theorem syms_le (l : List Nd) : (symsL l).length ≤ l.length := List.length_filterMap_le _ _
theorem news_s (w : World) (o : Obj) (s : Wd) (t : TypeId) : ∀ j u, [encStr s][j]? = some u → ((w.alloc o).alloc (.cells #[.string ⟨s.toArray⟩] t)).cell? ((⟨w.heap.size + 1, 0, none⟩ : Addr).add j) = some u := by
  intro j u hj
  cases j with
  | zero =>
    simp at hj
    subst hj
    rw [add0]
    have h9 := (WR.new (w.alloc o) t [.string ⟨s.toArray⟩]).cell (j := 0) rfl
    rw [show (w.alloc o).heap.size = w.heap.size + 1 by simp] at h9
    exact h9
  | succ j => simp at hj
set_option maxHeartbeats 4000000 in
set_option maxRecDepth 10000 in
theorem symbols_ok (v : Value) (l : List Nd) (w : World) (h : NR w v l) (hc : chkP l = 0) : Calls Try.prog 12 #[.agg #[v]] w fun e w' => SymPost l w e w' := by
  obtain ⟨hf, hnm, hl⟩ := chk0 hc
  obtain ⟨a, c, rfl, _, _, h4⟩ := h.at
  obtain ⟨n, hn⟩ : ∃ n, n = l.length := ⟨_, rfl⟩
  have HN := Lib.hid hn
  have H4 := Lib.hid h4
  rw [← hn] at h hl ⊢
  obtain ⟨W1, hW1⟩ : ∃ W1, W1 = w.alloc (.cells #[.slice a n c] 24) := ⟨_, rfl⟩
  have hb1 : Below w.heap.size w W1 := by rw [hW1]; exact (Below.refl _ w).alloc (Nat.le_refl _) _
  have HB1 := Lib.hid hb1
  have HR1 : Hid (WR W1 w.heap.size 24 [.slice a n c]) := Lib.hid (by rw [hW1]; exact WR.new w 24 [.slice a n c])
  have hck := checkG_any _ l W1 (h.below hb1)
  rw [hc] at hck
  have HCK := Lib.hid hck
  have HW1 := Lib.hid hW1
  have HSY : Hid (symP l = symR l) := Lib.hid (by unfold symP; rw [if_pos hc])
  clear h h4 hn hb1 hW1 hck hc hf hnm
  go_enter Try.func12, Try.ntmps12
  go_upto_region 1 with fail
  rw [← HW1.out]
  have r1 := HR1.out.cell (j := 0) rfl
  go_wp2_with fail
  refine HCK.out.mono ?_
  rintro e w2 ⟨rfl, hb⟩
  have HB2 := Lib.hid (th HB1.out (Nat.le_refl _) hb)
  have r2 := (HR1.out.below hb).cell (j := 0) rfl
  have hlow : w.heap.size ≤ w2.heap.size := HB2.out.size
  clear hb r1
  go_wp2_with fail
  go_loopw [3, 12] (fun v i wr => ∃ k : Nat, i = .int .i64 k ∧ k ≤ n ∧ Hid (OW wr w.heap.size v (symsL (l.take k))) ∧ Hid (w.heap.size ≤ wr.heap.size) ∧ Hid (Below w.heap.size w wr)) (fun _ i _ => n - (intOf i).toNat)
  case atStart => exact ⟨0, rfl, by omega, Lib.hid (World.ownsRow_nil _ _ _ _), Lib.hid hlow, HB2⟩
  case round =>
    obtain ⟨k, rfl, hk, HO, HSZ, HB⟩ := hrel
    by_cases hlt : k < n
    · obtain ⟨x, hx⟩ : ∃ x, l[k]? = some x := ⟨_, List.getElem?_eq_getElem (by rw [← HN.out]; exact hlt)⟩
      obtain ⟨g, o, rfl, k1, k2, k3, k4⟩ := H4.out k x hx
      have s1 := up_cell HB.out (Nat.le_refl _) k1
      have s2 := up_cell HB.out (Nat.le_refl _) k2
      have s3 := up_cell HB.out (Nat.le_refl _) k3
      have s4 := up_cell HB.out (Nat.le_refl _) k4
      have hi0 : (0 : Int) ≤ k := by omega
      have hi1 : (k : Int) < n := by omega
      have hd1 : decide ((k : Int) < n) = true := by simp; omega
      have HX := Lib.hid hx
      have HLT := Lib.hid hlt
      have HLE : Hid ((symsL (l.take k)).length ≤ 1024) := Lib.hid (by have h8 := syms_le (l.take k); have := List.length_take_le k l; omega)
      have HTK := Lib.hid (syms_take hx)
      clear k1 k2 k3 k4 hx hlt
      by_cases hop : x.op = 2
      · have hop2 : (x.op == 2) = true := by simp [hop]
        rw [if_pos hop] at HTK
        obtain ⟨i0, hi, hz0, hz1, hz2⟩ := info_parts infoS
        go_wp2_with (at_builtin; go_loud (refine wpList_append_own _ rfl _ _ 25 rfl w.heap.size 9 i0 (.string ⟨#[]⟩) 1 16 Try.underlying25 hi hz0 hz1 hz2 rfl (by decide) _ _ _ rfl ((HO.out.alloc _).alloc _) ⟨wr.heap.size + 1, 0, none⟩ 1 1 [encStr x.sym] rfl rfl (news_s _ _ _ _) (by intro u hu; simp at hu; subst hu; rfl) (by have := HLE.out; unfold maxLen; omega) (by have := HLE.out; omega) (by have := HSZ.out; simp; omega) ?_); intro v1 w1 hown1 hgrow1 _)
        go_roundw
        case rel =>
          have hb : Below w.heap.size w w1 := (((HB.out.alloc HSZ.out _).alloc (by have := HSZ.out; simp; omega) _)).grown hgrow1 (by simp; have := HSZ.out; omega) (fun b hb => by have := (HO.out.lt b hb).1; omega)
          refine ⟨k + 1, by go_num, by have := HLT.out; omega, Lib.hid ?_, Lib.hid hb.size, Lib.hid hb⟩
          rw [HTK.out]
          unfold OW
          rw [List.length_append, List.map_append]
          exact hown1
        case measure => have := HLT.out; simp [intOf]; omega
      · have hop2 : (x.op == 2) = false := by simp [hop]
        rw [if_neg hop, List.append_nil] at HTK
        go_wp2_with fail
        go_roundw
        case rel => exact ⟨k + 1, by go_num, by have := HLT.out; omega, Lib.hid (by rw [HTK.out]; exact HO.out.alloc _), Lib.hid (by have := HSZ.out; simp; omega), Lib.hid (HB.out.alloc HSZ.out _)⟩
        case measure => have := HLT.out; simp [intOf]; omega
    · have hd1 : decide ((k : Int) < n) = false := by simp; omega
      have hkn : k = n := by omega
      have HE : Hid (symsL (l.take k) = symsL l) := Lib.hid (by rw [hkn, HN.out, List.take_length])
      rw [HE.out] at HO
      have HR : Hid (symR l = Lib.compact ((symsL l).mergeSort fun x y => decide (x ≤ y))) := Lib.hid rfl
      have HLE : Hid ((symsL l).length ≤ 1024) := Lib.hid (by have h8 := syms_le l; have := HN.out; omega)
      generalize symsL l = ss at HO HE HR HLE
      clear hkn
      by_cases hss : ss = []
      · subst hss
        obtain ⟨p, cap, rfl, hcap⟩ := HO.out.zero
        have HST := Lib.hid (S.slices_Sort_string_none p cap wr)
        have HCM := Lib.hid (S.slices_Compact_string_empty p cap wr)
        clear hk
        go_wp2_with fail
        refine HST.out.mono ?_
        rintro e w4 ⟨rfl, rfl⟩
        go_wp2_with fail
        refine HCM.out.mono ?_
        rintro e w5 ⟨rfl, rfl⟩
        go_wp2_with fail
        go_ret
        refine ⟨_, rfl, ?_, HB.out⟩
        rw [HSY.out, HR.out]
        rw [comp_nil]
        exact ⟨p, cap, rfl, by simp, hcap, fun h9 => absurd h9 (by simp)⟩
      · have hne : 0 < ss.length := List.length_pos_iff.2 hss
        obtain ⟨g, cap, rfl⟩ := own_slice HO.out hne
        obtain ⟨g', cap', hv, hbg, hgl, hncap, hcm, hlen, hH⟩ := Lib.holds_of_ownsRow HO.out (by simp)
        cases hv
        have HST := Lib.hid (S.slices_Sort_string g 0 cap ss wr hH hgl (by have := HLE.out; omega))
        obtain ⟨m, hm⟩ : ∃ m, m = ss.length := ⟨_, rfl⟩
        have HM := Lib.hid hm
        have HGL := Lib.hid hgl
        have HBG := Lib.hid hbg
        have HH := Lib.hid hH
        have HCAP := Lib.hid hncap
        rw [← hm] at HST
        rw [← hm]
        clear hk hss hne hbg hgl hncap hcm hlen hH hm
        go_wp2_with fail
        refine HST.out.mono ?_
        rintro e w4 ⟨rfl, nn, os, hw4⟩
        have hl2 : (ss.mergeSort fun x y => decide (x ≤ y)).length = m := by rw [List.length_mergeSort, HM.out]
        have hcm := S.slices_Compact_string g 0 cap (ss.mergeSort fun x y => decide (x ≤ y)) w4 (by rw [hw4]; exact holds_sorted HGL.out HH.out) (by rw [hl2, HM.out]; have := HLE.out; omega) (by rw [hl2, HM.out]; exact HCAP.out)
        rw [hl2] at hcm
        have HCM := Lib.hid hcm
        have HW4 := Lib.hid hw4
        clear hcm hw4 hl2
        go_wp2_with fail
        refine HCM.out.mono ?_
        rintro e w5 ⟨rfl, q, hw5⟩
        have HW5 := Lib.hid hw5
        clear hw5
        go_wp2_with fail
        go_ret
        obtain ⟨h8, h9⟩ := sorted_left (nn := nn) (q := q) (os := os) HO.out HB.out HBG.out
        rw [← HW4.out, ← HM.out, ← HW5.out] at h8 h9
        refine ⟨_, rfl, ?_, h9⟩
        rw [HSY.out, HR.out]
        exact h8.vr
theorem symbols_any (v : Value) (l : List Nd) (w : World) (h : NR w v l) : Calls Try.prog 12 #[.agg #[v]] w fun e w' => SymPost l w e w' := by
  by_cases hc : chkP l = 0
  · exact symbols_ok v l w h hc
  · refine (symbols_err v l w h hc).mono ?_
    rintro e w' ⟨rfl, hb⟩
    refine ⟨_, rfl, ?_, hb⟩
    unfold symP
    rw [if_neg hc]
    exact VR.nil eS w'
end Go.Proofs.Ytnaimmhdpjggmaa.U
