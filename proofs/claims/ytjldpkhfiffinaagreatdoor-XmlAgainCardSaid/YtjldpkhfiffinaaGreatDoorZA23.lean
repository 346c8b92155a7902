/- Contracts and plain facts that the law stands on: Wt, Pw, Pz, Aw5. -/
import Derived.Test.YtjldpkhfiffinaaGreatDoorZA22
import Derived.Test.YtjldpkhfiffinaaGreatDoorZA16
import Derived.Lib.AppendStr
import Derived.Test.YtjldpkhfiffinaaGreatDoorZA20
import Derived.Test.YtjldpkhfiffinaaGreatDoorZA18
import Derived.Test.YtjldpkhfiffinaaGreatDoorZA17
import Derived.Deep.AppendLies
import Derived.Test.YtjldpkhfiffinaaGreatDoorZA19
import Derived.Test.YtjldpkhfiffinaaGreatDoorZA21
import Derived.Lib.SlBytesConst
namespace Go.Proofs.YtjldpkhfiffinaaGreatDoor.U
open Go.RowKit Go.Shelf
theorem okAll_take : ∀ (ts : List Tok) (f : Bool) (k : Nat) (h : k < ts.length), okAll f (ts.take (k + 1)) = (okAll f (ts.take k) && okT (f && (k == 0)) (ts[k]'h)) := by
  intro ts
  induction ts with
  | nil => intro f k h; simp at h
  | cons t r ih =>
    intro f k h
    cases k with
    | zero => simp [okAll]
    | succ k =>
      have := ih false k (by simpa using h)
      rw [List.take_succ_cons, List.take_succ_cons]
      simp only [okAll, this, List.getElem_cons_succ, Bool.and_assoc]
      simp
theorem okAll_bad : ∀ (ts : List Tok) (f : Bool) (k : Nat) (h : k < ts.length), okT (f && (k == 0)) (ts[k]'h) = false → okAll f ts = false := by
  intro ts
  induction ts with
  | nil => intro f k h; simp at h
  | cons t r ih =>
    intro f k h hb
    cases k with
    | zero => simp [okAll] at hb ⊢; intro h1; rw [hb] at h1; cases h1
    | succ k =>
      have := ih false k (by simpa using h) (by simpa using hb)
      simp [okAll, this]
theorem textT_small {t : Tok} (h1 : t.name.length ≤ 2000000) (h2 : t.text.length ≤ 2000000) (h3 : t.attrs.length ≤ 2000000) (h4 : sumA t.attrs ≤ 2000000) : (textT t).length ≤ 40000000 := by
  unfold textT
  have h5 := flat_attr_len t.attrs
  have h6 := (escL_len false t.text).2
  repeat' split
  all_goals (try simp only [List.length_cons, List.length_append, List.length_nil, sDec1, sDec2, sCom]
             omega)
theorem flat_text {ts : List Tok} {k : Nat} (h : k < ts.length) : (ts.take (k + 1)).flatMap textT = (ts.take k).flatMap textT ++ textT ts[k] := by
  rw [List.take_succ_eq_append_getElem h, List.flatMap_append]; simp
/-- What Write has so far: the bytes, or more than there may be. -/
def OutW (pre f : List UInt8) : Prop := (pre.length ≤ 65536 ∧ pre = f) ∨ (65536 < pre.length ∧ 65536 < f.length)
set_option maxHeartbeats 4000000 in
set_option maxRecDepth 20000 in
theorem twrite_any (a : Option Addr) (cap : Nat) (ts : List Tok) (w : World) (hm : LayT w) (hv : TokAt w (.slice a ts.length cap) ts) (hn : ts.length ≤ 2000000) (hb : ∀ t ∈ ts, t.name.length ≤ 2000000 ∧ t.text.length ≤ 2000000 ∧ t.attrs.length ≤ 2000000 ∧ sumA t.attrs ≤ 2000000) :
    Calls Tryz.prog 41 #[.slice a ts.length cap] w fun e w' => Below w.heap.size w w' ∧ ((okAll true ts = true ∧ (ts.flatMap textT).length ≤ 65536 ∧ ∃ a5 c5, e = .returned (.tuple #[.slice a5 (ts.flatMap textT).length c5, .int .i64 0]) ∧ w'.ownsRow w.heap.size 5 1 (.slice a5 (ts.flatMap textT).length c5) (ts.flatMap textT).length (Lib.byteCells (ts.flatMap textT))) ∨
      (¬ (okAll true ts = true ∧ (ts.flatMap textT).length ≤ 65536) ∧ ∃ z, (z != 0) = true ∧ e = .returned (.tuple #[.slice none 0 0, .int .i64 z]))) := by
  obtain ⟨g, off, hag, hc⟩ := hv.cells
  have HAG := Lib.hid hag
  have HC := Lib.hid hc
  have HM := Lib.hid hm
  have HBD := Lib.hid hb
  have HV := Lib.hid hv
  obtain ⟨i0, hi, hz0, hz1, hz2⟩ := info_parts info5
  clear hag hc hm hb hv
  go_enter Tryz.func41, Tryz.ntmps41
  go_wp2_with fail
  go_loopw [4, 11] (fun v i wr => ∃ (k : Nat) (pre : List UInt8) (a5 : Option Addr) (c5 : Nat), k ≤ ts.length ∧ i = .int .i64 k ∧ v = .slice a5 pre.length c5 ∧ pre.length ≤ 40065536 ∧ Hid (OutW pre ((ts.take k).flatMap textT)) ∧ Hid (okAll true (ts.take k) = true) ∧ Hid (wr.ownsRow w.heap.size 5 1 (.slice a5 pre.length c5) pre.length (Lib.byteCells pre)) ∧ Hid (Below w.heap.size w wr)) (fun _ i _ => ts.length - (intOf i).toNat)
  case atStart => exact ⟨0, [], none, 0, by omega, rfl, rfl, by simp, Lib.hid (.inl ⟨by simp, rfl⟩), Lib.hid rfl, Lib.hid (World.ownsRow_nil _ _ _ _), Lib.hid (Below.refl _ _)⟩
  case round =>
    obtain ⟨k, pre, a5, c5, hk, rfl, rfl, hpl, HP, HOK, HO, HB⟩ := hrel
    by_cases hlt : k < ts.length
    · obtain rfl := HAG.out (by omega)
      obtain ⟨x1, y1, p0, p1, p2, p3, p4, hp⟩ := HC.out k hlt
      obtain ⟨b1, b2, b3, b4⟩ := HBD.out _ (List.getElem_mem hlt)
      have HFT := Lib.hid (flat_text hlt)
      have HOT := Lib.hid (okAll_take ts true k hlt)
      have HBAD := Lib.hid (okAll_bad ts true k hlt)
      have HTS := Lib.hid (textT_small b1 b2 b3 b4)
      have HWN : Hid (∀ W, Below w.heap.size w W → Calls Tryz.prog 73 #[.agg #[.int .i64 (ts[k]'hlt).kind, .string ⟨(ts[k]'hlt).name.toArray⟩, .string ⟨(ts[k]'hlt).text.toArray⟩, .slice x1 (ts[k]'hlt).attrs.length y1, .bool (ts[k]'hlt).empty], .bool ((k : Int) == 0)] W fun e w' => WrQ (okT (true && (k == 0)) (ts[k]'hlt)) ⟨(textT (ts[k]'hlt)).toArray⟩ W e w') := Lib.hid (fun W hb => by
        have e : ((k : Int) == 0) = (true && (k == 0)) := by cases k <;> simp <;> omega
        rw [e]
        exact written_any (ts[k]'hlt) _ x1 y1 W (HM.out.below hb HM.out.size) (hp.below hb (Nat.le_refl _)) b3 b1 b2 b4)
      have up : ∀ {p : Addr} {u : Value}, w.cell? p = some u → wr.cell? p = some u := fun h => (HB.out.cell (block_lt_of_cell h)).trans h
      have q0 := up p0
      have q1 := up p1
      have q2 := up p2
      have q3 := up p3
      have q4 := up p4
      have hi0 : (0 : Int) ≤ k := by omega
      have hi1 : (k : Int) < ts.length := by omega
      clear p0 p1 p2 p3 p4 hp b1 b2 b3 b4 up
      generalize okT (true && (k == 0)) (ts[k]'hlt) = ok at HWN HOT HBAD
      generalize textT (ts[k]'hlt) = Y at HWN HFT HTS
      generalize ts[k]'hlt = t at q0 q1 q2 q3 q4 HWN
      obtain ⟨w1, hw1⟩ : ∃ w1, w1 = wr.alloc (.cells #[.int .i64 t.kind, .string ⟨t.name.toArray⟩, .string ⟨t.text.toArray⟩, .slice x1 t.attrs.length y1, .bool t.empty] 119) := ⟨_, rfl⟩
      have hB1 : Below wr.heap.size wr w1 := by rw [hw1]; exact (Below.refl _ wr).alloc (Nat.le_refl _) _
      have HB1 := Lib.hid (th HB.out (Nat.le_refl _) hB1)
      have HO1 := Lib.hid (ownBelow HO.out hB1)
      have HW1 := Lib.hid hw1
      clear hw1 hB1
      go_wp2_with fail
      rw [← HW1.out]
      refine (HWN.out _ HB1.out).mono ?_
      rintro e w2 ⟨hb2, ⟨rfl, rfl⟩ | ⟨rfl, x', z, hz, rfl⟩⟩
      · have HB2 := Lib.hid (th HB1.out (Nat.le_refl _) hb2)
        have HO2 := Lib.hid (ownBelow HO1.out hb2)
        have HYL : Hid ((⟨Y.toArray⟩ : ByteArray).size = Y.length) := Lib.hid (str_size2 Y)
        have HOK2 : Hid (okAll true (ts.take (k + 1)) = true) := Lib.hid (by rw [HOT.out, HOK.out]; rfl)
        have hyl : (⟨Y.toArray⟩ : ByteArray).size ≤ 40000000 := by rw [HYL.out]; exact HTS.out
        clear hb2 q0 q1 q2 q3 q4
        by_cases hpre : pre.length ≤ 65536
        · have HP2 : Hid (OutW (pre ++ Y) ((ts.take (k + 1)).flatMap textT)) := Lib.hid (by
            rw [HFT.out]
            rcases HP.out with ⟨_, h2⟩ | ⟨h1, _⟩
            · rw [← h2]
              rcases Nat.lt_or_ge 65536 (pre ++ Y).length with h3 | h3
              · exact .inr ⟨h3, h3⟩
              · exact .inl ⟨h3, rfl⟩
            · omega)
          go_wp2_with (at_builtin; refine Lib.wpList_append_own_string _ rfl _ _ 22 9 rfl w.heap.size 5 i0 Tryz.underlying22 Tryz.underlying9 hi hz0 hz1 hz2 _ _ _ rfl HO2.out ⟨Y.toArray⟩ rfl (by unfold maxLen; omega) (by omega) HB2.out.size ?_; intro v3 w3 hown3 hgrow3 _)
          rw [bytes_str, HYL.out] at hown3
          obtain ⟨a6, c6, hv6⟩ := own_slice hown3
          subst hv6
          go_wp2
          refine ⟨⟨k + 1, pre ++ Y, a6, c6, by omega, by go_num, by rw [List.length_append], by have := HTS.out; rw [List.length_append]; omega, HP2, HOK2, Lib.hid ?_, Lib.hid (HB2.out.grown hgrow3 HB2.out.size (fun k e => (HO2.out.lt k e).1))⟩, by simp [intOf]; omega⟩
          rw [Lib.byteCells_append, List.length_append]
          exact hown3
        · have HP2 : Hid (OutW pre ((ts.take (k + 1)).flatMap textT)) := Lib.hid (by
            rw [HFT.out]
            rcases HP.out with ⟨h1, _⟩ | ⟨h1, h2⟩
            · omega
            · exact .inr ⟨h1, by rw [List.length_append]; omega⟩)
          go_wp2
          exact ⟨⟨k + 1, pre, a5, c5, by omega, by go_num, rfl, hpl, HP2, HOK2, HO2, HB2⟩, by simp [intOf]; omega⟩
      · have HB2 := Lib.hid (th HB1.out (Nat.le_refl _) hb2)
        have HNO : Hid (¬ (okAll true ts = true ∧ (ts.flatMap textT).length ≤ 65536)) := Lib.hid (by rw [HBAD.out rfl]; simp)
        have hz2' : ¬ z = 0 := by simpa using hz
        clear hb2 q0 q1 q2 q3 q4
        go_wp2
        go_ret2
        exact ⟨HB2.out, .inr ⟨HNO.out, z, hz, rfl⟩⟩
    · obtain rfl : k = ts.length := by omega
      have HOKA : Hid (okAll true ts = true) := Lib.hid (by have := HOK.out; rwa [List.take_of_length_le (by omega)] at this)
      have HPA : Hid (OutW pre (ts.flatMap textT)) := Lib.hid (by have := HP.out; rwa [List.take_of_length_le (by omega)] at this)
      by_cases hpre : pre.length ≤ 65536
      · have HPE : Hid (pre = ts.flatMap textT) := Lib.hid (by
          rcases HPA.out with ⟨_, h⟩ | ⟨h, _⟩
          · exact h
          · omega)
        go_wp2
        go_ret2
        refine ⟨HB.out, .inl ⟨HOKA.out, ?_⟩⟩
        rw [← HPE.out]
        exact ⟨hpre, a5, c5, rfl, HO.out⟩
      · have HNO : Hid (¬ (okAll true ts = true ∧ (ts.flatMap textT).length ≤ 65536)) := Lib.hid (fun h => by
          rcases HPA.out with ⟨h1, _⟩ | ⟨_, h1⟩
          · omega
          · omega)
        go_wp2
        go_ret2
        exact ⟨HB.out, .inr ⟨HNO.out, 17, rfl, rfl⟩⟩
end Go.Proofs.YtjldpkhfiffinaaGreatDoor.U

namespace Go.Proofs.YtjldpkhfiffinaaGreatDoor.U
open Go.RowKit Go.Shelf
theorem KidsS.get {S : Nat → Prop} {w : World} : ∀ {ks : List Tr} {l : List (List Value)}, KidsS S w ks l → ∀ k t, ks[k]? = some t → ∃ h, TreeS S w t h ∧ ∀ i v, h[i]? = some v → l.flatten[k * 4 + i]? = some v := by
  intro ks
  induction ks with
  | nil => intro l _ k t ht; simp at ht
  | cons u r ih =>
    intro l h k t ht
    rw [KidsS] at h
    obtain ⟨a, q, rfl, h2, h3⟩ := h
    have h4 : a.length = 4 := by
      obtain ⟨_, _, _, _, _, _, _, _, e⟩ := h2.four
      rw [e]; rfl
    cases k with
    | zero =>
      simp only [List.getElem?_cons_zero, Option.some.injEq] at ht
      subst ht
      refine ⟨a, h2, fun i v hv => ?_⟩
      have hi : i < a.length := (List.getElem?_eq_some_iff.1 hv).1
      rw [List.flatten_cons, Nat.zero_mul, Nat.zero_add, List.getElem?_append_left hi]
      exact hv
    | succ k =>
      simp only [List.getElem?_cons_succ] at ht
      obtain ⟨b, h5, h6⟩ := ih h3 k t ht
      refine ⟨b, h5, fun i v hv => ?_⟩
      rw [List.flatten_cons, List.getElem?_append_right (by omega), h4, show (k + 1) * 4 + i - 4 = k * 4 + i by omega]
      exact h6 i v hv
/-- The pieces that have been laid: their row is the call's own, their attributes lie below. -/
def RowW (w : World) (base : Nat) (v : Value) (l : List (Tok × Value)) : Prop :=
  w.ownsRow base 119 5 v l.length (tvCells l) ∧ ∀ x ∈ l, AtRowS (fun g => g < base) w x.2 x.1.attrs.length 2 (attrCells x.1.attrs)
theorem RowW.at {w : World} {base : Nat} {v : Value} {l : List (Tok × Value)} (h : RowW w base v l) : TokAt w v (l.map (·.1)) :=
  ⟨l, rfl, by rw [List.length_map]; exact AtRow.of_own h.1, fun x hx => (h.2 x hx).v⟩
theorem tv_snoc (l : List (Tok × Value)) (x : Tok × Value) : tvCells (l ++ [x]) = tvCells l ++ (tokCells x.1 x.2).toList := by unfold tvCells; rw [List.flatMap_append]; simp
theorem RowW.below {w w' : World} {base : Nat} {v : Value} {l : List (Tok × Value)} (h : RowW w base v l) (hb : Below w.heap.size w w') : RowW w' base v l :=
  ⟨own_bel h.1 hb, fun x hx => (h.2 x hx).keep hb.size (fun g _ hg => hb.block g hg)⟩
theorem RowW.more {w w' : World} {base : Nat} {v v' : Value} {l : List (Tok × Value)} {x : Tok × Value} (h : RowW w base v l) (hx : AtRowS (fun g => g < base) w x.2 x.1.attrs.length 2 (attrCells x.1.attrs))
    (h1 : w'.ownsRow base 119 5 v' (l.length + 1) (tvCells l ++ (tokCells x.1 x.2).toList)) (hg : w.grownBy w' v.ownBlock) : RowW w' base v' (l ++ [x]) := by
  have keep : ∀ {y : Value} {n : Nat} {xs : List Value}, AtRowS (fun g => g < base) w y n 2 xs → AtRowS (fun g => g < base) w' y n 2 xs := fun hy => hy.keep hg.size (fun g hs hl => hg.block g hl (fun e => by have := (h.1.lt g e.symm).1; omega))
  refine ⟨by rw [List.length_append, List.length_singleton, tv_snoc]; exact h1, fun y hy => ?_⟩
  rcases List.mem_append.1 hy with h2 | h2
  · exact keep (h.2 y h2)
  · obtain rfl := List.mem_singleton.1 h2
    exact keep hx
theorem own_box {w : World} {base size n b : Nat} {e t : TypeId} {v : Value} {xs : List Value} {cs : Array Value} {fr : Nat × Nat} (h : w.ownsRow base e size v n xs) (hb : w.heap[b]? = some (.cells cs t fr)) (hne : t ≠ e) : some b ≠ v.ownBlock := by
  intro e1
  rcases h.2 with ⟨rfl, _⟩ | ⟨g, cap, cur, rfl, _, h3, _⟩
  · cases e1
  · simp only [Value.ownBlock, Option.some.injEq] at e1
    subst e1
    rw [hb] at h3
    simp only [Option.some.injEq, Obj.cells.injEq] at h3
    exact hne h3.2.1
/-- What has grown but for a row, which lies where it lay or in a new block. -/
def GrowsTo (w w' : World) (v v' : Value) : Prop := w.grownBy w' v.ownBlock ∧ (v'.ownBlock = v.ownBlock ∨ ∃ g, v'.ownBlock = some g ∧ w.heap.size ≤ g)
theorem GrowsTo.trans {w w1 w2 : World} {v v1 v2 : Value} (h : GrowsTo w w1 v v1) (k : GrowsTo w1 w2 v1 v2) : GrowsTo w w2 v v2 := by
  obtain ⟨h1, h2⟩ := h
  obtain ⟨k1, k2⟩ := k
  have hs := h1.size
  refine ⟨⟨k1.os.trans h1.os, k1.tape.trans h1.tape, k1.output.trans h1.output, Nat.le_trans hs k1.size, fun g hg hne => (k1.block g (by omega) (fun e => ?_)).trans (h1.block g hg hne)⟩, ?_⟩
  · rcases h2 with h2 | ⟨g', h2, h3⟩
    · exact hne (e.trans h2)
    · rw [h2] at e; injection e with e; omega
  · rcases k2 with k2 | ⟨g', k2, k3⟩
    · rw [k2]; exact h2
    · exact .inr ⟨g', k2, by omega⟩
theorem GrowsTo.same {w w' : World} (v : Value) (h : Below w.heap.size w w') : GrowsTo w w' v v := ⟨⟨h.os, h.tape, h.output, h.size, fun g hg _ => h.block g hg⟩, .inl rfl⟩
theorem GrowsTo.below {w w' : World} {v v' : Value} {base : Nat} (h : GrowsTo w w' v v') (hb0 : base ≤ w.heap.size) (hv : ∀ g, v.ownBlock = some g → base ≤ g) : Below base w w' :=
  (Below.refl base w).grown h.1 hb0 hv
def PiecesP (base : Nat) (v : Value) (l : List (Tok × Value)) (ts : List Tok) (w : World) (e : Ending) (w' : World) : Prop :=
  ∃ a c l', e = .returned (.slice a l'.length c) ∧ l'.map (·.1) = l.map (·.1) ++ ts ∧ RowW w' base (.slice a l'.length c) l' ∧ GrowsTo w w' v (.slice a l'.length c)
set_option maxHeartbeats 4000000 in
set_option maxRecDepth 20000 in
theorem pieces_text {base : Nat} (a : Option Addr) (c : Nat) (l : List (Tok × Value)) (tx : List UInt8) (va vk : Value) (ks : List Tr) (al : List (List UInt8 × List UInt8)) (w : World) (hb0 : base ≤ w.heap.size) (hl : RowW w base (.slice a l.length c) l) (hsz : l.length ≤ 1000000) :
    Calls Tryz.prog 42 #[.slice a l.length c, .agg #[.string ⟨#[]⟩, .string ⟨tx.toArray⟩, va, vk]] w fun e w' => PiecesP base (.slice a l.length c) l (toksT (.node [] tx al ks)) w e w' := by
  have HIT := Lib.hid (fun W : World => isTextX_any [] ⟨tx.toArray⟩ va vk true rfl W)
  obtain ⟨txb, htxb⟩ : ∃ txb : ByteArray, txb = ⟨tx.toArray⟩ := ⟨_, rfl⟩
  rw [← htxb] at HIT ⊢
  have HTX := Lib.hid htxb
  obtain ⟨W0, hW0⟩ : ∃ W0, W0 = w.alloc (.cells #[.string ⟨#[]⟩, .string txb, va, vk] 27) := ⟨_, rfl⟩
  have HB0 : Hid (Below w.heap.size w W0) := Lib.hid (by rw [hW0]; exact (Below.refl _ w).alloc (Nat.le_refl _) _)
  have HX0 : Hid (Box4 w.heap.size ⟨#[]⟩ txb va vk W0) := Lib.hid (by rw [hW0]; exact Box4.made _ _ _ _ _)
  have HL := Lib.hid hl
  obtain ⟨n, hn⟩ : ∃ n, n = l.length := ⟨_, rfl⟩
  rw [← hn] at hsz ⊢
  have HN := Lib.hid hn
  clear hl htxb hn
  go_enter Tryz.func42, Tryz.ntmps42
  go_wp2_with fail
  rw [← hW0]
  clear hW0
  (with_reducible refine (HIT.out _).mono ?_)
  rintro e w1 ⟨rfl, hb1⟩
  have HB1 := Lib.hid (th HB0.out (Nat.le_refl _) hb1)
  have HX1 := Lib.hid (HX0.out.below hb1 (Nat.le_refl _))
  clear hb1
  obtain ⟨x0, x1, x2, x3⟩ := HX1.out.at
  obtain ⟨W2, hW2⟩ : ∃ W2, W2 = w1.alloc (.cells #[.int .i64 4, .string ⟨#[]⟩, .string txb, .slice none 0 0, .bool false] 119) := ⟨_, rfl⟩
  have HB2 : Hid (Below w1.heap.size w1 W2) := Lib.hid (by rw [hW2]; exact (Below.refl _ w1).alloc (Nat.le_refl _) _)
  have HL2 : Hid (RowW W2 base (.slice a n c) l) := Lib.hid (by rw [HN.out]; exact (HL.out.below HB1.out).below HB2.out)
  have HN2 : Hid (∀ j u, [Value.int .i64 4, .string ⟨#[]⟩, .string txb, .slice none 0 0, .bool false][j]? = some u → W2.cell? ((⟨w1.heap.size, 0, none⟩ : Addr).add j) = some u) := Lib.hid (by rw [hW2]; exact World.news_of_block (cs := #[.int .i64 4, .string ⟨#[]⟩, .string txb, .slice none 0 0, .bool false]) (t := 119) (fr := (0, 0)) (heap_alloc_new w1 _))
  have HBW : Hid (base ≤ W2.heap.size) := Lib.hid (by have := HB1.out.size; have := HB2.out.size; omega)
  have HOW : Hid (W2.ownsRow base 119 5 (.slice a n c) n (tvCells l)) := Lib.hid (by have := HL2.out.1; rw [← HN.out] at this; exact this)
  have HW2 := Lib.hid hW2
  obtain ⟨i0, hi, hz0, hz1, hz2⟩ := info_parts infoTK
  clear hW2
  go_wp2_with (at_builtin; rw [← HW2.out]; refine wpList_append_lies _ rfl (.tmp 10) (.tmp 14) 65 rfl base 119 i0 (.agg #[.int .i64 0, .string ⟨#[]⟩, .string ⟨#[]⟩, .slice none 0 0, .bool false]) 5 72 Tryz.underlying65 hi hz0 hz1 hz2 rfl (by decide) (.slice a n c) n _ rfl HOW.out ⟨w1.heap.size, 0, none⟩ 1 1 [.int .i64 4, .string ⟨#[]⟩, .string txb, .slice none 0 0, .bool false] rfl rfl HN2.out (by simp [Value.oneCell']) (by decide) (by unfold maxLen; omega) (by omega) HBW.out _ rfl ?_; intro g3 c3 w3 hown3 hg3 hat3 hlt3)
  have HA3 := Lib.hid hat3
  have HO3 := Lib.hid hown3
  have HG3 := Lib.hid hg3
  clear hown3 hg3 hat3 hlt3
  go_wp2
  go_ret
  have hm := HL2.out.more (x := (⟨4, [], tx, [], false⟩, .slice none 0 0)) (v' := .slice (some ⟨g3, 0, none⟩) (n + 1) c3) ⟨none, 0, rfl, Nat.le_refl _, rfl, fun h => absurd h (by simp)⟩ (by have := HO3.out; rw [HTX.out] at this; rw [← HN.out]; exact this) HG3.out
  refine ⟨some ⟨g3, 0, none⟩, c3, l ++ [(⟨4, [], tx, [], false⟩, .slice none 0 0)], ?_, ?_, ?_, ?_⟩
  · rw [List.length_append, List.length_singleton, ← HN.out]; rfl
  · rw [toksT_text]; simp
  · rw [List.length_append, List.length_singleton, ← HN.out]; exact hm
  · refine (GrowsTo.same _ (th HB1.out (Nat.le_refl _) HB2.out)).trans ⟨HG3.out, ?_⟩
    rw [List.length_append, List.length_singleton, ← HN.out]
    rcases HA3.out with h | h
    · exact .inl h.symm
    · exact .inr ⟨g3, rfl, by omega⟩
set_option maxHeartbeats 8000000 in
set_option maxRecDepth 20000 in
theorem pieces_elem {base : Nat} (lb tx : List UInt8) (hlb : lb ≠ []) (al : List (List UInt8 × List UInt8)) (ks : List Tr)
    (IH : ∀ (k : Nat) (t : Tr), ks[k]? = some t → ∀ (hs : List Value) (W : World) (a : Option Addr) (c : Nat) (l : List (Tok × Value)), base ≤ W.heap.size → TreeS (fun g => g < base) W t hs → RowW W base (.slice a l.length c) l → l.length + (toksT t).length ≤ 1000000 → Calls Tryz.prog 42 #[.slice a l.length c, .agg hs.toArray] W fun e w' => PiecesP base (.slice a l.length c) l (toksT t) W e w')
    (hs : List Value) (w : World) (a : Option Addr) (c : Nat) (l : List (Tok × Value)) (hb0 : base ≤ w.heap.size) (ht : TreeS (fun g => g < base) w (.node lb tx al ks) hs) (hl : RowW w base (.slice a l.length c) l) (hsz : l.length + (toksT (.node lb tx al ks)).length ≤ 1000000) :
    Calls Tryz.prog 42 #[.slice a l.length c, .agg hs.toArray] w fun e w' => PiecesP base (.slice a l.length c) l (toksT (.node lb tx al ks)) w e w' := by
  have HT := Lib.hid ht
  rw [TreeS.eq] at ht
  obtain ⟨va, vk, rfl, hva, lk, hlk, hvk⟩ := ht
  obtain ⟨a1, c1, rfl, _⟩ := id hva
  obtain ⟨d, c2, rfl, hkc, hkl, hkx⟩ := id hvk
  have HVA := Lib.hid hva
  obtain ⟨n1, hn1⟩ : ∃ n1, n1 = al.length := ⟨_, rfl⟩
  obtain ⟨n2, hn2⟩ : ∃ n2, n2 = ks.length := ⟨_, rfl⟩
  obtain ⟨n, hn⟩ : ∃ n, n = l.length := ⟨_, rfl⟩
  have HN := Lib.hid hn
  have HN1 := Lib.hid hn1
  have HN2 := Lib.hid hn2
  have HIH := Lib.hid IH
  have HL := Lib.hid hl
  have HSZ := Lib.hid hsz
  have HKX := Lib.hid hkx
  have HLK := Lib.hid hlk
  have HIT := Lib.hid (fun W : World => isTextX_any lb ⟨tx.toArray⟩ (.slice a1 n1 c1) (.slice d n2 c2) false (decide_eq_false hlb) W)
  have hn6 : n + 1 ≤ 1000000 := by
    have : 1 ≤ (toksT (.node lb tx al ks)).length := by
      cases ks with
      | nil => rw [toksT_empty _ _ hlb]; simp
      | cons k q => rw [toksT_kids _ _ _ _ hlb]; simp
    omega
  rw [← hn, ← hn1, ← hn2]
  obtain ⟨lbb, hlbb⟩ : ∃ x : ByteArray, x = ⟨lb.toArray⟩ := ⟨_, rfl⟩
  obtain ⟨txb, htxb⟩ : ∃ x : ByteArray, x = ⟨tx.toArray⟩ := ⟨_, rfl⟩
  rw [← hlbb, ← htxb] at HIT ⊢
  have HLB := Lib.hid hlbb
  have hks6 : n2 ≤ 1000000 := by
    have h1 : ∀ js : List Tr, js.length ≤ (toksK js).length := by
      intro js
      induction js with
      | nil => simp
      | cons t r ih =>
        have h2 : 1 ≤ (toksT t).length := by
          obtain ⟨l1, t1, a1, k1⟩ := t
          by_cases h3 : l1 = []
          · subst h3; rw [toksT_text]; simp
          · cases k1 with
            | nil => rw [toksT_empty _ _ h3]; simp
            | cons k q => rw [toksT_kids _ _ _ _ h3]; simp
        simp only [toksK, List.length_append, List.length_cons]
        omega
    have h2 := h1 ks
    cases ks with
    | nil => simp at hn2; omega
    | cons k q => rw [toksT_kids _ _ _ _ hlb] at hsz; simp at hsz; rw [hn2]; omega
  clear hva hvk hkl hkx hlk hl hsz hn hn1 hn2 IH htxb hkc hlbb
  obtain ⟨W0, hW0⟩ : ∃ W0, W0 = w.alloc (.cells #[.string lbb, .string txb, .slice a1 n1 c1, .slice d n2 c2] 27) := ⟨_, rfl⟩
  have HB0 : Hid (Below w.heap.size w W0) := Lib.hid (by rw [hW0]; exact (Below.refl _ w).alloc (Nat.le_refl _) _)
  have HX0 : Hid (Box4 w.heap.size lbb txb (.slice a1 n1 c1) (.slice d n2 c2) W0) := Lib.hid (by rw [hW0]; exact Box4.made _ _ _ _ _)
  have hbx0 : base ≤ w.heap.size := hb0
  -- the Open
  go_enter Tryz.func42, Tryz.ntmps42
  go_wp2_with fail
  rw [← hW0]
  clear hW0
  (with_reducible refine (HIT.out _).mono ?_)
  rintro e w1 ⟨rfl, hb1⟩
  have HB1 := Lib.hid (th HB0.out (Nat.le_refl _) hb1)
  have HX1 := Lib.hid (HX0.out.below hb1 (Nat.le_refl _))
  clear hb1
  obtain ⟨x0, x1, x2, x3⟩ := HX1.out.at
  obtain ⟨em, hem⟩ : ∃ em, em = decide (n2 = 0) := ⟨_, rfl⟩
  have hemb : ((n2 : Int) == 0) = em := by rw [hem]; by_cases h : n2 = 0 <;> simp [h]
  obtain ⟨W2, hW2⟩ : ∃ W2, W2 = w1.alloc (.cells #[.int .i64 2, .string lbb, .string ⟨#[]⟩, .slice a1 n1 c1, .bool em] 119) := ⟨_, rfl⟩
  have HB2 : Hid (Below w1.heap.size w1 W2) := Lib.hid (by rw [hW2]; exact (Below.refl _ w1).alloc (Nat.le_refl _) _)
  have HL2 : Hid (RowW W2 base (.slice a n c) l) := Lib.hid (by rw [HN.out]; exact (HL.out.below HB1.out).below HB2.out)
  have HNW2 : Hid (∀ j u, [Value.int .i64 2, .string lbb, .string ⟨#[]⟩, .slice a1 n1 c1, .bool em][j]? = some u → W2.cell? ((⟨w1.heap.size, 0, none⟩ : Addr).add j) = some u) := Lib.hid (by rw [hW2]; exact World.news_of_block (cs := #[.int .i64 2, .string lbb, .string ⟨#[]⟩, .slice a1 n1 c1, .bool em]) (t := 119) (fr := (0, 0)) (heap_alloc_new w1 _))
  have HBW : Hid (base ≤ W2.heap.size) := Lib.hid (by have := HB1.out.size; have := HB2.out.size; omega)
  have HOW : Hid (W2.ownsRow base 119 5 (.slice a n c) n (tvCells l)) := Lib.hid (by have := HL2.out.1; rw [← HN.out] at this; exact this)
  have HW2 := Lib.hid hW2
  have HX2 := Lib.hid (HX1.out.below HB2.out (Nat.le_refl _))
  have HEM := Lib.hid hem
  obtain ⟨i0, hi, hz0, hz1, hz2⟩ := info_parts infoTK
  clear hW2 hem
  go_upto_region 5 with (at_builtin; rw [← HW2.out]; refine wpList_append_lies _ rfl (.tmp 20) (.tmp 27) 65 rfl base 119 i0 (.agg #[.int .i64 0, .string ⟨#[]⟩, .string ⟨#[]⟩, .slice none 0 0, .bool false]) 5 72 Tryz.underlying65 hi hz0 hz1 hz2 rfl (by decide) (.slice a n c) n _ rfl HOW.out ⟨w1.heap.size, 0, none⟩ 1 1 [.int .i64 2, .string lbb, .string ⟨#[]⟩, .slice a1 n1 c1, .bool em] rfl rfl HNW2.out (by simp [Value.oneCell']) (by decide) (by unfold maxLen; omega) (by omega) HBW.out _ rfl ?_; intro g3 c3 w3 hown3 hg3 hat3 hlt3; have HA3 := Lib.hid hat3; have HO3 := Lib.hid hown3; have HG3 := Lib.hid hg3; have HX3 : Hid (Box4 w.heap.size lbb txb (.slice a1 n1 c1) (.slice d n2 c2) w3) := Lib.hid (HX2.out.grown hg3 (fun e => by have := (HL.out.1.lt _ (by rw [← HN.out]; exact e.symm)).2; omega)); obtain ⟨y0, y1, y2, y3⟩ := HX3.out.at; clear hown3 hg3 hat3 hlt3)
  have HVA3 : Hid (AtRowS (fun g => g < base) W2 (.slice a1 n1 c1) al.length 2 (attrCells al)) := Lib.hid (by
    have h := (HVA.out.keep HB1.out.size (fun g _ hg => HB1.out.block g hg)).keep HB2.out.size (fun g _ hg => HB2.out.block g hg)
    rw [← HN1.out] at h ⊢
    exact h)
  have HM3 : Hid (RowW w3 base (.slice (some ⟨g3, 0, none⟩) (n + 1) c3) (l ++ [(⟨2, lb, [], al, em⟩, .slice a1 n1 c1)])) := Lib.hid (HL2.out.more (x := (⟨2, lb, [], al, em⟩, .slice a1 n1 c1)) (v' := .slice (some ⟨g3, 0, none⟩) (n + 1) c3) HVA3.out (by have := HO3.out; rw [HLB.out] at this; rw [← HN.out]; exact this) HG3.out)
  have HGT : Hid (GrowsTo w w3 (.slice a n c) (.slice (some ⟨g3, 0, none⟩) (n + 1) c3)) := Lib.hid ((GrowsTo.same _ (th HB1.out (Nat.le_refl _) HB2.out)).trans ⟨HG3.out, by
    rcases HA3.out with h | h
    · exact .inl h.symm
    · exact .inr ⟨g3, rfl, by omega⟩⟩)
  clear x0 x1 x2 x3
  by_cases h0 : n2 = 0
  · have he : em = true := by rw [HEM.out]; simp [h0]
    subst he
    have hks : ks = [] := List.eq_nil_of_length_eq_zero (by rw [← HN2.out]; exact h0)
    subst hks
    go_wp2
    go_ret
    refine ⟨some ⟨g3, 0, none⟩, c3, l ++ [(⟨2, lb, [], al, true⟩, .slice a1 n1 c1)], ?_, ?_, ?_, ?_⟩
    · rw [List.length_append, List.length_singleton, ← HN.out]; rfl
    · rw [toksT_empty _ _ hlb]; simp
    · rw [List.length_append, List.length_singleton, ← HN.out]; exact HM3.out
    · rw [List.length_append, List.length_singleton, ← HN.out]; exact HGT.out
  · have he : em = false := by rw [HEM.out]; simp [h0]
    subst he
    have hkx : ∃ gk ok, d = some ⟨gk, ok, none⟩ ∧ gk < base ∧ gk < w.heap.size ∧ ∀ j u, lk.flatten[j]? = some u → w.cell? ⟨gk, ok + j, none⟩ = some u := HKX.out (by rw [← HN2.out]; omega)
    obtain ⟨gk, ok, rfl, hgb, hgw, hkc⟩ := hkx
    have HKC := Lib.hid hkc
    have HTOK : Hid (toksT (.node lb tx al ks) = ⟨2, lb, [], al, false⟩ :: (toksK ks ++ [⟨3, lb, [], [], false⟩])) := Lib.hid (by
      cases ks with
      | nil => exact absurd HN2.out h0
      | cons k q => exact toksT_kids _ _ _ _ hlb)
    clear hkc
    go_wp2_with fail
    go_loopw [0, 34] (fun v i wr => ∃ (k m : Nat) (a' : Option Addr) (c' : Nat) (l' : List (Tok × Value)), k ≤ n2 ∧ m = l'.length ∧ v = .slice a' m c' ∧ i = .int .i64 k ∧ Hid (l'.map (·.1) = l.map (·.1) ++ (⟨2, lb, [], al, false⟩ :: toksK (ks.take k))) ∧ Hid (RowW wr base (.slice a' m c') l') ∧ Hid (GrowsTo w wr (.slice a n c) (.slice a' m c')) ∧ Hid (Box4 w.heap.size lbb txb (.slice a1 n1 c1) (.slice (some ⟨gk, ok, none⟩) n2 c2) wr)) (fun _ i _ => n2 - (intOf i).toNat)
    case atStart => exact ⟨0, n + 1, some ⟨g3, 0, none⟩, c3, l ++ [(⟨2, lb, [], al, false⟩, .slice a1 n1 c1)], by omega, by rw [List.length_append, List.length_singleton, HN.out], rfl, rfl, Lib.hid (by simp [toksK]), HM3, HGT, HX3⟩
    case round =>
      obtain ⟨k, m, a', c', l', hk, hm, rfl, rfl, HMP, HRW, HGR, HXB⟩ := hrel
      have hbB : Below base w wr := HGR.out.below hb0 (fun g e => by
        have := HL.out.1
        rw [← HN.out] at this
        exact (this.lt g e).1)
      have HBB := Lib.hid hbB
      have HML := Lib.hid hm
      have hsW := hbB.size
      clear hbB
      by_cases hlt : k < n2
      · obtain ⟨t1, ht1⟩ : ∃ t1, ks[k]? = some t1 := ⟨_, List.getElem?_eq_getElem (by rw [← HN2.out]; exact hlt)⟩
        obtain ⟨h4, htr, hcl⟩ := HLK.out.get k t1 ht1
        obtain ⟨l1, x1, d1, d2, m1, e1, m2, e2, rfl⟩ := htr.four
        have HTR : Hid (TreeS (fun g => g < base) wr t1 [.string l1, .string x1, .slice d1 m1 e1, .slice d2 m2 e2]) := Lib.hid (htr.keep hsW (fun g hg _ => HBB.out.block g hg))
        have cell : ∀ i v, ([.string l1, .string x1, .slice d1 m1 e1, .slice d2 m2 e2] : List Value)[i]? = some v → wr.cell? ⟨gk, ok + k * 4 + i, none⟩ = some v := fun i v hv => by
          rw [Nat.add_assoc]
          exact (HBB.out.cell (p := ⟨gk, ok + (k * 4 + i), none⟩) hgb).trans (HKC.out _ _ (hcl i v hv))
        have t0 := cell 0 _ rfl
        have t2 := cell 1 _ rfl
        have t3 := cell 2 _ rfl
        have t4 := cell 3 _ rfl
        rw [Nat.add_zero] at t0
        have hi0 : (0 : Int) ≤ k := by omega
        have hi1 : (k : Int) < n2 := by omega
        have HT1 := Lib.hid ht1
        obtain ⟨W5, hW5⟩ : ∃ W5, W5 = wr.alloc (.cells #[.string l1, .string x1, .slice d1 m1 e1, .slice d2 m2 e2] 27) := ⟨_, rfl⟩
        have HB5 : Hid (Below wr.heap.size wr W5) := Lib.hid (by rw [hW5]; exact (Below.refl _ wr).alloc (Nat.le_refl _) _)
        have HX5 : Hid (Box4 wr.heap.size l1 x1 (.slice d1 m1 e1) (.slice d2 m2 e2) W5) := Lib.hid (by rw [hW5]; exact Box4.made _ _ _ _ _)
        have HCA := Lib.hid (HIH.out k t1 ht1 [.string l1, .string x1, .slice d1 m1 e1, .slice d2 m2 e2] W5 a' c' l' (by have := HB5.out.size; omega) (HTR.out.keep HB5.out.size (fun g hg hl => HB5.out.block g hl)) (by rw [← hm]; exact HRW.out.below HB5.out) (by
          have h1 := HSZ.out
          rw [HTOK.out] at h1
          have h2 := congrArg List.length HMP.out
          rw [List.length_map, List.length_append, List.length_map, List.length_cons] at h2
          have h3 : toksK ks = toksK (ks.take k) ++ (toksT t1 ++ toksK (ks.drop (k + 1))) := by
            conv => lhs; rw [← List.take_append_drop k ks, toksK_append]
            congr 1
            obtain ⟨hk1, hk2⟩ := List.getElem?_eq_some_iff.1 ht1
            rw [List.drop_eq_getElem_cons hk1, hk2, toksK]
          have h4 := congrArg List.length h3
          simp only [List.length_append, List.length_cons] at h1 h4
          omega))
        rw [← hm] at HCA
        clear cell hcl htr ht1 hm
        go_wp2_with fail
        rw [← hW5]
        clear hW5 t0 t2 t3 t4
        (with_reducible refine HCA.out.mono ?_)
        rintro e w6 ⟨a6, c6, l6, rfl, hmp6, hrw6, hgr6⟩
        have HMP6 : Hid (l6.map (·.1) = l.map (·.1) ++ (⟨2, lb, [], al, false⟩ :: toksK (ks.take (k + 1)))) := Lib.hid (by
          rw [hmp6, HMP.out, List.take_add_one, HT1.out, toksK_append]
          simp [toksK])
        have HRW6 := Lib.hid hrw6
        have HGR6 : Hid (GrowsTo w w6 (.slice a n c) (.slice a6 l6.length c6)) := Lib.hid (HGR.out.trans ((GrowsTo.same _ HB5.out).trans hgr6))
        have HXB6 : Hid (Box4 w.heap.size lbb txb (.slice a1 n1 c1) (.slice (some ⟨gk, ok, none⟩) n2 c2) w6) := Lib.hid ((HXB.out.below HB5.out (Nat.le_refl _)).grown hgr6.1 (own_box (HRW.out.below HB5.out).1 (HXB.out.below HB5.out (Nat.le_refl _)) (by decide)))
        clear hmp6 hrw6 hgr6
        go_wp2
        exact ⟨⟨k + 1, l6.length, a6, c6, l6, by omega, rfl, rfl, by go_num, HMP6, HRW6, HGR6, HXB6⟩, by simp [intOf]; omega⟩
      · obtain rfl : n2 = k := by omega
        have HMPE : Hid (l'.map (·.1) = l.map (·.1) ++ (⟨2, lb, [], al, false⟩ :: toksK ks)) := Lib.hid (by rw [HMP.out, List.take_of_length_le (by rw [HN2.out]; omega)])
        have hm6 : m + 1 ≤ 1000000 := by
          have h1 := HSZ.out
          rw [HTOK.out] at h1
          have h2 := congrArg List.length HMPE.out
          simp only [List.length_map, List.length_append, List.length_cons, List.length_nil] at h1 h2
          omega
        obtain ⟨b0, b1, b2, b3⟩ := HXB.out.at
        obtain ⟨W5, hW5⟩ : ∃ W5, W5 = wr.alloc (.cells #[.int .i64 3, .string lbb, .string ⟨#[]⟩, .slice none 0 0, .bool false] 119) := ⟨_, rfl⟩
        have HB5 : Hid (Below wr.heap.size wr W5) := Lib.hid (by rw [hW5]; exact (Below.refl _ wr).alloc (Nat.le_refl _) _)
        have HRW5 := Lib.hid (HRW.out.below HB5.out)
        have HNW5 : Hid (∀ j u, [Value.int .i64 3, .string lbb, .string ⟨#[]⟩, .slice none 0 0, .bool false][j]? = some u → W5.cell? ((⟨wr.heap.size, 0, none⟩ : Addr).add j) = some u) := Lib.hid (by rw [hW5]; exact World.news_of_block (cs := #[.int .i64 3, .string lbb, .string ⟨#[]⟩, .slice none 0 0, .bool false]) (t := 119) (fr := (0, 0)) (heap_alloc_new wr _))
        have HBW5 : Hid (base ≤ W5.heap.size) := Lib.hid (by have := HB5.out.size; omega)
        have HOW5 : Hid (W5.ownsRow base 119 5 (.slice a' m c') m (tvCells l')) := Lib.hid (by have := HRW5.out.1; rw [← HML.out] at this; exact this)
        have HW5 := Lib.hid hW5
        clear hW5 hm
        go_wp2_with (at_builtin; rw [← HW5.out]; refine wpList_append_lies _ rfl (.tmp 42) (.tmp 46) 65 rfl base 119 i0 (.agg #[.int .i64 0, .string ⟨#[]⟩, .string ⟨#[]⟩, .slice none 0 0, .bool false]) 5 72 Tryz.underlying65 hi hz0 hz1 hz2 rfl (by decide) (.slice a' m c') m _ rfl HOW5.out ⟨wr.heap.size, 0, none⟩ 1 1 [.int .i64 3, .string lbb, .string ⟨#[]⟩, .slice none 0 0, .bool false] rfl rfl HNW5.out (by simp [Value.oneCell']) (by decide) (by unfold maxLen; omega) (by omega) HBW5.out _ rfl ?_; intro g7 c7 w7 hown7 hg7 hat7 hlt7; have HA7 := Lib.hid hat7; have HO7 := Lib.hid hown7; have HG7 := Lib.hid hg7; clear hown7 hg7 hat7 hlt7)
        have HM7 : Hid (RowW w7 base (.slice (some ⟨g7, 0, none⟩) (m + 1) c7) (l' ++ [(⟨3, lb, [], [], false⟩, .slice none 0 0)])) := Lib.hid (HRW5.out.more (x := (⟨3, lb, [], [], false⟩, .slice none 0 0)) (v' := .slice (some ⟨g7, 0, none⟩) (m + 1) c7) ⟨none, 0, rfl, Nat.le_refl _, rfl, fun h => absurd h (by simp)⟩ (by have := HO7.out; rw [HLB.out] at this; rw [← HML.out]; exact this) HG7.out)
        go_wp2
        go_ret
        refine ⟨some ⟨g7, 0, none⟩, c7, l' ++ [(⟨3, lb, [], [], false⟩, .slice none 0 0)], ?_, ?_, ?_, ?_⟩
        · rw [List.length_append, List.length_singleton, ← HML.out]; rfl
        · rw [List.map_append, HMPE.out, HTOK.out]; simp
        · rw [List.length_append, List.length_singleton, ← HML.out]; exact HM7.out
        · refine HGR.out.trans ((GrowsTo.same _ HB5.out).trans ⟨HG7.out, ?_⟩)
          rw [List.length_append, List.length_singleton, ← HML.out]
          rcases HA7.out with h | h
          · exact .inl h.symm
          · exact .inr ⟨g7, rfl, by omega⟩
/-- Any tree's pieces. -/
theorem pieces_any {base : Nat} (t : Tr) : ∀ (hs : List Value) (w : World) (a : Option Addr) (c : Nat) (l : List (Tok × Value)), base ≤ w.heap.size → TreeS (fun g => g < base) w t hs → RowW w base (.slice a l.length c) l → l.length + (toksT t).length ≤ 1000000 →
    Calls Tryz.prog 42 #[.slice a l.length c, .agg hs.toArray] w fun e w' => PiecesP base (.slice a l.length c) l (toksT t) w e w' := by
  refine Tr.rec (motive_1 := fun t => ∀ (hs : List Value) (w : World) (a : Option Addr) (c : Nat) (l : List (Tok × Value)), base ≤ w.heap.size → TreeS (fun g => g < base) w t hs → RowW w base (.slice a l.length c) l → l.length + (toksT t).length ≤ 1000000 → Calls Tryz.prog 42 #[.slice a l.length c, .agg hs.toArray] w fun e w' => PiecesP base (.slice a l.length c) l (toksT t) w e w')
    (motive_2 := fun ks => ∀ (k : Nat) (t : Tr), ks[k]? = some t → ∀ (hs : List Value) (W : World) (a : Option Addr) (c : Nat) (l : List (Tok × Value)), base ≤ W.heap.size → TreeS (fun g => g < base) W t hs → RowW W base (.slice a l.length c) l → l.length + (toksT t).length ≤ 1000000 → Calls Tryz.prog 42 #[.slice a l.length c, .agg hs.toArray] W fun e w' => PiecesP base (.slice a l.length c) l (toksT t) W e w') ?_ ?_ ?_ t
  · intro lb tx al ks ih hs w a c l hb0 ht hl hsz
    by_cases h : lb = []
    · subst h
      rw [TreeS.eq] at ht
      obtain ⟨va, vk, rfl, _⟩ := ht
      exact pieces_text a c l tx va vk ks al w hb0 hl (by omega)
    · exact pieces_elem lb tx h al ks ih hs w a c l hb0 ht hl hsz
  · intro k t h
    simp at h
  · intro t ks ih1 ih2 k u hu
    cases k with
    | zero =>
      simp only [List.getElem?_cons_zero, Option.some.injEq] at hu
      subst hu
      exact ih1
    | succ k => exact ih2 k u (by simpa using hu)
end Go.Proofs.YtjldpkhfiffinaaGreatDoor.U

namespace Go.Proofs.YtjldpkhfiffinaaGreatDoor.U
open Go.RowKit Go.Shelf
theorem AtRow.low {w : World} {v : Value} {n size : Nat} {xs : List Value} (hs : 0 < size) (h : AtRow w v n size xs) : AtRowS (fun g => g < w.heap.size) w v n size xs := by
  obtain ⟨a, c, rfl, h2, h3, h4⟩ := h
  refine ⟨a, c, rfl, h2, h3, fun h0 => ?_⟩
  obtain ⟨g, off, h5, h6⟩ := h4 h0
  have hx : 0 < xs.length := by rw [h3]; exact Nat.mul_pos h0 hs
  have h7 := h6 0 _ (List.getElem?_eq_getElem hx)
  have h8 : g < w.heap.size := by simpa using block_lt_of_cell h7
  exact ⟨g, off, h5, h8, h8, h6⟩
theorem TreeV.low {w : World} (t : Tr) : ∀ hs, TreeV w t hs → TreeS (fun g => g < w.heap.size) w t hs := by
  refine Tr.rec (motive_1 := fun t => ∀ hs, TreeV w t hs → TreeS (fun g => g < w.heap.size) w t hs) (motive_2 := fun ks => ∀ l, KidsV w ks l → KidsS (fun g => g < w.heap.size) w ks l) ?_ ?_ ?_ t
  · intro lb tx al ks ih hs h
    rw [TreeV.eq] at h
    rw [TreeS.eq]
    obtain ⟨va, vk, h1, h2, l, h3, h4⟩ := h
    exact ⟨va, vk, h1, h2.low (by decide), l, ih l h3, h4.low (by decide)⟩
  · intro l h
    rw [KidsV] at h
    rw [KidsS]
    exact h
  · intro t ks ih1 ih2 l h
    rw [KidsV] at h
    rw [KidsS]
    obtain ⟨a, q, h1, h2, h3⟩ := h
    exact ⟨a, q, h1, ih1 a h2, ih2 q h3⟩
theorem sumA_w : ∀ al : List (List UInt8 × List UInt8), sumA al ≤ wA al := by
  intro al
  induction al with
  | nil => simp [sumA, wA]
  | cons a r ih =>
    have h1 : wA (a :: r) = 1 + a.1.length + a.2.length + wA r := by simp [wA]
    have h2 : sumA (a :: r) = a.1.length + a.2.length + sumA r := by simp [sumA]
    omega
/-- How large a tree's pieces are. -/
theorem toks_w (t : Tr) : (toksT t).length ≤ 2 * wT t ∧ ∀ u ∈ toksT t, u.name.length ≤ wT t ∧ u.text.length ≤ wT t ∧ u.attrs.length ≤ wT t ∧ sumA u.attrs ≤ wT t := by
  refine Tr.rec (motive_1 := fun t => (toksT t).length ≤ 2 * wT t ∧ ∀ u ∈ toksT t, u.name.length ≤ wT t ∧ u.text.length ≤ wT t ∧ u.attrs.length ≤ wT t ∧ sumA u.attrs ≤ wT t)
    (motive_2 := fun ks => (toksK ks).length ≤ 2 * wK ks ∧ ∀ u ∈ toksK ks, u.name.length ≤ wK ks ∧ u.text.length ≤ wK ks ∧ u.attrs.length ≤ wK ks ∧ sumA u.attrs ≤ wK ks) ?_ ?_ ?_ t
  · intro lb tx al ks ih
    have h1 := sumA_w al
    have h2 := wA_len al
    have e : wT (.node lb tx al ks) = 1 + lb.length + tx.length + wA al + wK ks := by simp only [wT]
    by_cases h : lb = []
    · subst h
      rw [toksT_text]
      refine ⟨by simp; omega, fun u hu => ?_⟩
      obtain rfl := List.mem_singleton.1 hu
      refine ⟨by simp, ?_, by simp, by simp [sumA]⟩
      simp only
      omega
    · cases ks with
      | nil =>
        rw [toksT_empty _ _ h]
        refine ⟨by simp; omega, fun u hu => ?_⟩
        obtain rfl := List.mem_singleton.1 hu
        simp only [List.length_nil]
        exact ⟨by omega, by omega, by omega, by omega⟩
      | cons k q =>
        rw [toksT_kids _ _ _ _ h]
        obtain ⟨i1, i2⟩ := ih
        refine ⟨by simp only [List.length_cons, List.length_append, List.length_nil]; omega, fun u hu => ?_⟩
        rcases List.mem_cons.1 hu with rfl | hu
        · simp only [List.length_nil]
          exact ⟨by omega, by omega, by omega, by omega⟩
        · rcases List.mem_append.1 hu with hu | hu
          · obtain ⟨j1, j2, j3, j4⟩ := i2 u hu
            exact ⟨by omega, by omega, by omega, by omega⟩
          · obtain rfl := List.mem_singleton.1 hu
            simp only [List.length_nil]
            refine ⟨by omega, by omega, by omega, ?_⟩
            simp [sumA]
  · simp [toksK, wK]
  · intro t ks ih1 ih2
    obtain ⟨a1, a2⟩ := ih1
    obtain ⟨b1, b2⟩ := ih2
    simp only [toksK, wK, List.length_append]
    refine ⟨by omega, fun u hu => ?_⟩
    rcases List.mem_append.1 hu with hu | hu
    · obtain ⟨j1, j2, j3, j4⟩ := a2 u hu
      exact ⟨by omega, by omega, by omega, by omega⟩
    · obtain ⟨j1, j2, j3, j4⟩ := b2 u hu
      exact ⟨by omega, by omega, by omega, by omega⟩
/-- What Write leaves. -/
def WriteP (T : Tr) (w : World) (e : Ending) (w' : World) : Prop :=
  Below w.heap.size w w' ∧ ((trL T = [] ∧ e = .returned (.tuple #[.slice none 0 0, .int .i64 12])) ∨ (trL T ≠ [] ∧ chkT T ≠ 0 ∧ e = .returned (.tuple #[.slice none 0 0, .int .i64 (chkT T)])) ∨
    (trL T ≠ [] ∧ chkT T = 0 ∧ (textX T).length ≤ 65536 ∧ ∃ a5 c5, e = .returned (.tuple #[.slice a5 (textX T).length c5, .int .i64 0]) ∧ w'.ownsRow w.heap.size 5 1 (.slice a5 (textX T).length c5) (textX T).length (Lib.byteCells (textX T))) ∨
    (trL T ≠ [] ∧ chkT T = 0 ∧ 65536 < (textX T).length ∧ ∃ z, (z != 0) = true ∧ e = .returned (.tuple #[.slice none 0 0, .int .i64 z])))
set_option maxHeartbeats 4000000 in
set_option maxRecDepth 20000 in
theorem write_any (T : Tr) (hs : List Value) (w : World) (hm : LayT w) (ht : TreeV w T hs) (hw : wT T ≤ 400000) (hb : bareA T = true) :
    Calls Tryz.prog 20 #[.agg hs.toArray] w fun e w' => WriteP T w e w' := by
  have hTW := toks_w T
  have HFT := Lib.hid (fitT_w (t := T) (by omega))
  have HTW := Lib.hid hTW
  have HBA := Lib.hid hb
  have HV := Lib.hid ht
  have HW := Lib.hid hw
  have htv := ht
  obtain ⟨lb, tx, al, ks⟩ := T
  rw [TreeV.eq] at ht
  obtain ⟨va, vk, rfl, ⟨a1, c1, rfl, _⟩, lk, hlk, ⟨a2, c2, rfl, _⟩⟩ := ht
  obtain ⟨n1, hn1⟩ : ∃ n1, n1 = al.length := ⟨_, rfl⟩
  obtain ⟨n2, hn2⟩ : ∃ n2, n2 = ks.length := ⟨_, rfl⟩
  obtain ⟨bt, hbt⟩ : ∃ bt, decide (lb = []) = bt := ⟨_, rfl⟩
  have HIT := Lib.hid (fun W : World => isTextX_any lb ⟨tx.toArray⟩ (.slice a1 n1 c1) (.slice a2 n2 c2) bt hbt W)
  have HBT : Hid (decide (trL (.node lb tx al ks) = []) = bt) := Lib.hid hbt
  rw [← hn1, ← hn2] at HV ⊢
  obtain ⟨T, hT⟩ : ∃ T, T = Tr.node lb tx al ks := ⟨_, rfl⟩
  rw [← hT] at HV HFT HTW HBA HW HBT ⊢
  obtain ⟨lbb, hlbb⟩ : ∃ x : ByteArray, x = ⟨lb.toArray⟩ := ⟨_, rfl⟩
  obtain ⟨txb, htxb⟩ : ∃ x : ByteArray, x = ⟨tx.toArray⟩ := ⟨_, rfl⟩
  rw [← hlbb, ← htxb] at HV HIT ⊢
  clear hlbb htxb hT hn1 hn2 hbt hlk htv hTW hw hb
  obtain ⟨W0, hW0⟩ : ∃ W0, W0 = w.alloc (.cells #[.string lbb, .string txb, .slice a1 n1 c1, .slice a2 n2 c2] 27) := ⟨_, rfl⟩
  have HB0 : Hid (Below w.heap.size w W0) := Lib.hid (by rw [hW0]; exact (Below.refl _ w).alloc (Nat.le_refl _) _)
  have HX0 : Hid (Box4 w.heap.size lbb txb (.slice a1 n1 c1) (.slice a2 n2 c2) W0) := Lib.hid (by rw [hW0]; exact Box4.made _ _ _ _ _)
  have HM0 := Lib.hid (hm.below HB0.out hm.size)
  have HV0 := Lib.hid (HV.out.below HB0.out (Nat.le_refl _))
  clear hm
  go_enter Tryz.func20, Tryz.ntmps20
  go_wp2_with fail
  rw [← hW0]
  clear hW0
  (with_reducible refine (HIT.out _).mono ?_)
  rintro e w1 ⟨rfl, hb1⟩
  have HB1 := Lib.hid (th HB0.out (Nat.le_refl _) hb1)
  have HX1 := Lib.hid (HX0.out.below hb1 (Nat.le_refl _))
  have HM1 := Lib.hid (HM0.out.below hb1 HM0.out.size)
  have HV1 := Lib.hid (HV0.out.below hb1 (Nat.le_refl _))
  clear hb1
  obtain ⟨x0, x1, x2, x3⟩ := HX1.out.at
  cases bt with
  | true =>
    go_wp2
    go_ret2
    exact ⟨HB1.out, .inl ⟨of_decide_eq_true HBT.out, rfl⟩⟩
  | false =>
    have HNT : Hid (trL T ≠ []) := Lib.hid (of_decide_eq_false HBT.out)
    have HCK := Lib.hid (checkT_any T _ w1 HM1.out.lay.lay HV1.out HFT.out)
    obtain ⟨ck, hck⟩ : ∃ ck, ck = chkT T := ⟨_, rfl⟩
    rw [← hck] at HCK
    have HCQ := Lib.hid hck
    clear hck
    go_wp2_with fail
    (with_reducible refine HCK.out.mono ?_)
    rintro e w2 ⟨rfl, hb2⟩
    have HB2 := Lib.hid (th HB1.out (Nat.le_refl _) hb2)
    have HX2 := Lib.hid (HX1.out.below hb2 (Nat.le_refl _))
    have HM2 := Lib.hid (HM1.out.below hb2 HM1.out.size)
    have HV2 := Lib.hid (HV1.out.below hb2 (Nat.le_refl _))
    clear hb2 x0 x1 x2 x3
    obtain ⟨x0, x1, x2, x3⟩ := HX2.out.at
    by_cases hc0 : ck = 0
    · subst hc0
      have HOK := Lib.hid (doc_back (t := T) (by rw [← chk_steps HBA.out]; exact HCQ.out.symm) (by
        have := HNT.out
        cases T with
        | node a b c d => simp [isTx]; exact this))
      have HPI := Lib.hid (pieces_any (base := w2.heap.size) T _ w2 none 0 [] (Nat.le_refl _) (TreeV.low T _ HV2.out) ⟨World.ownsRow_nil _ _ _ _, fun x hx => by cases hx⟩ (by
        have := HTW.out.1
        have := HW.out
        simp only [List.length_nil]
        omega))
      rw [List.length_nil] at HPI
      go_wp2_with fail
      (with_reducible refine HPI.out.mono ?_)
      rintro e w3 ⟨a3, c3, l3, rfl, hmp, hrw, hgr⟩
      rw [List.map_nil, List.nil_append] at hmp
      have hb3 : Below w2.heap.size w2 w3 := hgr.below (Nat.le_refl _) (fun g e => by cases e)
      have HB3 := Lib.hid (th HB2.out (Nat.le_refl _) hb3)
      have HM3 := Lib.hid (HM2.out.below hb3 HM2.out.size)
      have hta := hrw.at
      rw [hmp] at hta
      have hl3 : l3.length = (toksT T).length := by rw [← hmp, List.length_map]
      rw [hl3] at hta ⊢
      have HWR := Lib.hid (twrite_any a3 c3 (toksT T) w3 HM3.out hta (by have := HTW.out.1; have := HW.out; omega) (fun t ht => by
        obtain ⟨j1, j2, j3, j4⟩ := HTW.out.2 t ht
        have := HW.out
        exact ⟨by omega, by omega, by omega, by omega⟩))
      obtain ⟨FL, hFL⟩ : ∃ FL, FL = ((toksT T).flatMap textT).length := ⟨_, rfl⟩
      have HFL : Hid (FL = (textX T).length) := Lib.hid hFL
      rw [← hFL] at HWR
      clear hb3 hgr hmp hrw hta hl3 hFL
      go_wp2_with fail
      (with_reducible refine HWR.out.mono ?_)
      rintro e w4 ⟨hb4, ⟨hok, hlen, a5, c5, rfl, hrow⟩ | ⟨hno, z, hz, rfl⟩⟩
      · have HB4 := Lib.hid (th HB3.out (Nat.le_refl _) hb4)
        have HRO := Lib.hid hrow
        have HLE := Lib.hid hlen
        clear hb4 hok hlen hrow
        go_wp2
        go_ret2
        exact ⟨HB4.out, .inr (.inr (.inl ⟨HNT.out, HCQ.out.symm, by rw [← HFL.out]; exact HLE.out, a5, c5, by rw [← HFL.out]; rfl, by rw [← HFL.out]; exact own_mono HRO.out (by have := HB3.out.size; omega)⟩))⟩
      · have HB4 := Lib.hid (th HB3.out (Nat.le_refl _) hb4)
        have HNO : Hid (65536 < (textX T).length) := Lib.hid (by
          have h1 := HOK.out.1
          have h2 : ¬ FL ≤ 65536 := fun h => hno ⟨h1, h⟩
          rw [← HFL.out]
          omega)
        clear hb4 hno
        go_wp2
        go_ret2
        exact ⟨HB4.out, .inr (.inr (.inr ⟨HNT.out, HCQ.out.symm, HNO.out, z, hz, rfl⟩))⟩
    · have hcb : (ck == 0) = false := beq_eq_false_iff_ne.2 hc0
      have HC0 := Lib.hid hc0
      clear hc0
      go_wp2
      go_ret2
      exact ⟨HB2.out, .inr (.inl ⟨HNT.out, by rw [← HCQ.out]; exact HC0.out, by rw [← HCQ.out]; rfl⟩)⟩
end Go.Proofs.YtjldpkhfiffinaaGreatDoor.U

namespace Go.Proofs.YtjldpkhfiffinaaGreatDoor.U
open Go.RowKit Go.Shelf
theorem built_mark (w : World) (zs : List Int) (fr : Nat × Nat) (hb : ∀ z ∈ zs, 0 ≤ z ∧ z ≤ 255) (hn : zs.length ≤ 140737488351232) : Byt (w.alloc (.cells (zs.map (Value.int .u8)).toArray 5 fr)) (some ⟨w.heap.size, 0, none⟩) zs.length zs.length zs := by
  refine ⟨rfl, Nat.le_refl _, hn, hb, fun _ => ⟨w.heap.size, 0, rfl, fun i hi => ?_⟩⟩
  rw [World.cell?_alloc_mark]
  simp [List.getElem?_eq_getElem hi]
def exL5 : List UInt8 := [60, 97, 32, 98, 61, 39, 49, 39, 62, 60, 33, 45, 45, 32, 45, 45, 62, 60, 99, 47, 62, 120, 60, 33, 91, 67, 68, 65, 84, 65, 91, 121, 93, 93, 62, 60, 47, 97, 62, 10]
def exT5 : Tr := .node [97] [] [([98], [49])] [.node [99] [] [] [], .node [] [120, 121] [] []]
def exX5 : List UInt8 := [60, 97, 32, 98, 61, 34, 49, 34, 62, 60, 99, 47, 62, 120, 121, 60, 47, 97, 62]
theorem ex_parse : parseX exL5 = .ok exT5 := by kernel_rfl
theorem ex_text : textX exT5 = exX5 := by kernel_rfl
theorem ex_bare : bareA exT5 = true := by kernel_rfl
theorem ex_chk : chkT exT5 = 0 := by kernel_rfl
theorem ex_w : wT exT5 ≤ 400000 := by decide +kernel
set_option maxHeartbeats 4000000 in
set_option maxRecDepth 10000 in
theorem awake5_any (w : World) (hm : LayT w) : Calls Tryz.prog 8 #[] w fun e w' => e = .returned (.bool true) ∧ Below w.heap.size w w' := by
  have HB1 := Lib.hid ((Below.refl _ w).alloc (Nat.le_refl _) (.cells ((ints exL5).map (Value.int .u8)).toArray 5 (40, 41)))
  have hby := built_mark w (ints exL5) (40, 41) (by decide) (by decide)
  have hcv := Lib.run_convert_bytes_const (P := Tryz.prog) w 22 5 ((ints exL5).map (Value.int .u8)).toArray 40 40 Tryz.underlying22 Tryz.underlying5
  rw [show (((ints exL5).map (Value.int .u8)).toArray : Array Value) = #[.int .u8 60, .int .u8 97, .int .u8 32, .int .u8 98, .int .u8 61, .int .u8 39, .int .u8 49, .int .u8 39, .int .u8 62, .int .u8 60, .int .u8 33, .int .u8 45, .int .u8 45, .int .u8 32, .int .u8 45, .int .u8 45, .int .u8 62, .int .u8 60, .int .u8 99, .int .u8 47, .int .u8 62, .int .u8 120, .int .u8 60, .int .u8 33, .int .u8 91, .int .u8 67, .int .u8 68, .int .u8 65, .int .u8 84, .int .u8 65, .int .u8 91, .int .u8 121, .int .u8 93, .int .u8 93, .int .u8 62, .int .u8 60, .int .u8 47, .int .u8 97, .int .u8 62, .int .u8 10] from rfl] at hcv
  rw [show ((#[.int .u8 60, .int .u8 97, .int .u8 32, .int .u8 98, .int .u8 61, .int .u8 39, .int .u8 49, .int .u8 39, .int .u8 62, .int .u8 60, .int .u8 33, .int .u8 45, .int .u8 45, .int .u8 32, .int .u8 45, .int .u8 45, .int .u8 62, .int .u8 60, .int .u8 99, .int .u8 47, .int .u8 62, .int .u8 120, .int .u8 60, .int .u8 33, .int .u8 91, .int .u8 67, .int .u8 68, .int .u8 65, .int .u8 84, .int .u8 65, .int .u8 91, .int .u8 121, .int .u8 93, .int .u8 93, .int .u8 62, .int .u8 60, .int .u8 47, .int .u8 97, .int .u8 62, .int .u8 10] : Array Value)).size = 40 from rfl] at hcv
  have HM1 := Lib.hid (hm.below HB1.out hm.size)
  have HPA := Lib.hid (parse_any (some ⟨w.heap.size, 0, none⟩) 40 40 exL5 _ HM1.out hby)
  have HSZ := Lib.hid hm.size
  clear hby hm
  go_enter Tryz.func8, Tryz.ntmps8
  go_wp2_with fail
  refine HPA.out.mono ?_
  rintro e w2 ⟨hb, ⟨p, z, ho, _⟩ | ⟨T, a1, n1, c1, a2, n2, c2, ho, rfl, ht⟩⟩
  · rw [ex_parse] at ho; cases ho
  · rw [ex_parse] at ho
    injection ho with ho
    subst ho
    have HB2 := Lib.hid (HB1.out.trans (hb.mono HB1.out.size))
    have HM2 := Lib.hid (HM1.out.below hb HM1.out.size)
    have ht2 : TreeV w2 exT5 [.string ⟨#[97]⟩, .string ⟨#[]⟩, .slice a1 n1 c1, .slice a2 n2 c2] := ht
    have HTV := Lib.hid ht2
    rw [show (⟨(trL exT5).toArray⟩ : ByteArray) = ⟨#[97]⟩ from rfl, show (⟨(trX exT5).toArray⟩ : ByteArray) = ⟨#[]⟩ from rfl]
    clear hb ht ht2 hcv
    obtain ⟨W3, hW3⟩ : ∃ W3, W3 = w2.alloc (.cells #[.string ⟨#[97]⟩, .string ⟨#[]⟩, .slice a1 n1 c1, .slice a2 n2 c2] 27) := ⟨_, rfl⟩
    have HB3 : Hid (Below w2.heap.size w2 W3) := Lib.hid (by rw [hW3]; exact (Below.refl _ w2).alloc (Nat.le_refl _) _)
    have HX3 : Hid (Box4 w2.heap.size ⟨#[97]⟩ ⟨#[]⟩ (.slice a1 n1 c1) (.slice a2 n2 c2) W3) := Lib.hid (by rw [hW3]; exact Box4.made _ _ _ _ _)
    have HM3 := Lib.hid (HM2.out.below HB3.out HM2.out.size)
    have HWR := Lib.hid (write_any exT5 _ W3 HM3.out (HTV.out.below HB3.out (Nat.le_refl _)) ex_w ex_bare)
    go_upto_region 2 with fail
    rw [← hW3]
    clear hW3
    obtain ⟨x0, x1, x2, x3⟩ := HX3.out.at
    go_wp2_with fail
    refine HWR.out.mono ?_
    rintro e w4 ⟨hb4, ⟨h1, _⟩ | ⟨_, h1, _⟩ | ⟨_, _, _, a5, c5, rfl, hrow⟩ | ⟨_, _, h1, _⟩⟩
    · exact absurd h1 (by decide)
    · exact absurd ex_chk h1
    · rw [ex_text] at hrow ⊢
      have HB4 := Lib.hid ((HB2.out.trans (HB3.out.mono HB2.out.size)).trans (hb4.mono (by have := HB2.out.size; have := HB3.out.size; omega)))
      have hcv := conv_own w4 _ _ exX5 hrow
      rw [show (⟨exX5.toArray⟩ : ByteArray) = ⟨#[60, 97, 32, 98, 61, 34, 49, 34, 62, 60, 99, 47, 62, 120, 121, 60, 47, 97, 62]⟩ from rfl] at hcv
      rw [show exX5.length = 19 from rfl] at hcv ⊢
      clear hb4 hrow x0 x1 x2 x3
      go_wp2
      go_ret
      exact ⟨rfl, HB4.out⟩
    · rw [ex_text] at h1
      exact absurd h1 (by decide)
end Go.Proofs.YtjldpkhfiffinaaGreatDoor.U
