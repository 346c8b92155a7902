/- Contracts and plain facts that the law stands on: Rr, Ps. -/
import Derived.Test.YtjldpkhfiffinaaGreatDoorZA16
import Derived.Test.YtjldpkhfiffinaaGreatDoorZA19
import Derived.Test.YtjldpkhfiffinaaGreatDoorZA20
namespace Go.Proofs.YtjldpkhfiffinaaGreatDoor.U
open Go.RowKit Go.Shelf
theorem tag_of {l : List (Tok × Value)} {k : Nat} (h : k < l.length) : ∃ x, l[k]? = some x := ⟨_, List.getElem?_eq_getElem h⟩
/-- What takes a piece, whichever it is. -/
theorem take_any {ρ : Part} {w : World} {base rb g c j : Nat} {fs : List Fr} {root : Option Tr} {ps : List Nat} {vs : List (Value × Value)} (t : Tok) (va : Value) (h : RdV ρ w base rb (stk fs root) ps vs g c) (hok : FsOk fs root)
    (hva : w.ownsRow base 82 2 va t.attrs.length (attrCells t.attrs)) (hvb : ∀ b, va.ownBlock = some b → ρ b = (5, j)) (hone : t.kind = 2 → OneName t.attrs) (hal : t.attrs.length ≤ 1000000) (hsm : Small 1000000 1000000 fs) (hxl : t.text.length ≤ 1000000) (hb0 : base ≤ w.heap.size) :
    Calls Tryz.prog (takerF t.kind) #[.pointer (some ⟨rb, 0, none⟩), tokV t va] w fun e w' => TakePost base rb j ρ w (stepA fs root t) e w' := by
  by_cases h2 : t.kind = 2
  · have e : takerF t.kind = 109 := by rw [h2]; rfl
    rw [e]
    exact takeOpen_any t va h h2 hva hvb (hone h2) hal hsm.1 (fun f hf => (hsm.2 f hf).1) hb0
  · by_cases h3 : t.kind = 3
    · have e : takerF t.kind = 110 := by rw [h3]; rfl
      rw [e]
      cases fs with
      | nil => exact takeClose_out t va h h3 hb0
      | cons f q => exact takeClose_in t va h h3 hb0 (fun f1 hf => (hsm.2 f1 hf).1) (hok.1 (by simp))
    · by_cases h4 : t.kind = 4
      · have e : takerF t.kind = 111 := by rw [h4]; rfl
        rw [e]
        cases fs with
        | nil => exact takeText_out t va h h4 hb0
        | cons f q => exact takeText_in t va h h4 hb0 (hsm.2 f (by simp)).1 (hok.2 f (by simp)) hxl (hsm.2 f (by simp)).2
      · have e : takerF t.kind = 112 := by unfold takerF; rw [if_neg h2, if_neg h3, if_neg h4]
        rw [e]
        refine (pass_any rb t va w).mono ?_
        rintro e w' ⟨rfl, hb⟩
        exact ⟨hb.mono hb0, .inr ⟨fs, root, ρ, ps, vs, g, c, by unfold stepA; rw [if_neg h2, if_neg h3, if_neg h4], rfl, h.below hb, fun b hb' _ => ⟨rfl, hb.block b hb'⟩⟩⟩
/-- A call's ending with a tree's variable and two values more. -/
theorem ret_tree2 {fn : Func} {R : Ending → World → Prop} {a : Act} {w : World} {p u v : Tmp} {g : Nat} {lb tx : ByteArray} {va vk : Value}
    (h : fn.results = #[.cell p 27, .tmp u, .tmp v]) (hp : a.tmps.getD p undef = .pointer (some ⟨g, 0, none⟩)) (hg : Box4 g lb tx va vk w) (hf : a.defers = [])
    (hR : R (.returned (.tuple #[.agg #[.string lb, .string tx, va, vk], a.tmps.getD u undef, a.tmps.getD v undef])) w) : bodyPost Tryz.prog fn R .ret a w := by
  refine bodyPost_ret (v := .tuple #[.agg #[.string lb, .string tx, va, vk], a.tmps.getD u undef, a.tmps.getD v undef]) ?_ hf hR
  have hp' : a.tmps[p]?.getD undef = .pointer (some ⟨g, 0, none⟩) := by simpa using hp
  simp only [results, h]
  simp [Result.andThen, hp', asAddr, run_loadVar_row w g 27 27 #[.string lb, .string tx, va, vk] (0, 0) _ hg Tryz.underlying27 rfl (by kernel_rfl)]
theorem takerF_four (k : Int) : takerF k = 109 ∨ takerF k = 110 ∨ takerF k = 111 ∨ takerF k = 112 := by
  unfold takerF
  by_cases h2 : k = 2
  · rw [if_pos h2]; exact .inl rfl
  · rw [if_neg h2]
    by_cases h3 : k = 3
    · rw [if_pos h3]; exact .inr (.inl rfl)
    · rw [if_neg h3]
      by_cases h4 : k = 4
      · rw [if_pos h4]; exact .inr (.inr (.inl rfl))
      · rw [if_neg h4]; exact .inr (.inr (.inr rfl))
theorem sumX_mono (ts : List Tok) (k : Nat) : sumX (ts.take k) ≤ sumX ts := by
  unfold sumX
  conv => rhs; rw [← List.take_append_drop k ts]
  rw [List.map_append, List.sum_append]
  omega
def ReadXP (ts : List Tok) (base : Nat) (w : World) (e : Ending) (w' : World) : Prop :=
  Below base w w' ∧ ((∃ i : Nat, treeL ts = .error i ∧ e = .returned (.tuple #[.agg #[.string ⟨#[]⟩, .string ⟨#[]⟩, .slice none 0 0, .slice none 0 0], .int .i64 i, .bool false])) ∨
    ∃ T va vk, treeL ts = .ok T ∧ e = .returned (.tuple #[.agg #[.string ⟨(trL T).toArray⟩, .string ⟨(trX T).toArray⟩, va, vk], .int .i64 0, .bool true]) ∧ TreeS (fun g => base ≤ g) w' T [.string ⟨(trL T).toArray⟩, .string ⟨(trX T).toArray⟩, va, vk])
set_option maxHeartbeats 4000000 in
set_option maxRecDepth 20000 in
theorem xread_any {base : Nat} (l : List (Tok × Value)) (a : Option Addr) (c : Nat) (w : World) (h : TokRowK w base (.slice a l.length c) l) (hap : ApartT l) (hb0 : base ≤ w.heap.size) (hn : l.length ≤ 1000000) (hx : sumX (l.map (·.1)) ≤ 1000000)
    (hok : ∀ x ∈ l, (x.1.kind = 2 → x.1.name ≠ [] ∧ OneName x.1.attrs) ∧ x.1.attrs.length ≤ 1000000 ∧ x.1.text.length ≤ 1000000) :
    Calls Tryz.prog 31 #[.slice a l.length c] w fun e w' => ReadXP (l.map (·.1)) base w e w' := by
  have HH := Lib.hid h
  have HAP := Lib.hid hap
  have HOK := Lib.hid hok
  obtain ⟨n, hnl⟩ : ∃ n, n = l.length := ⟨_, rfl⟩
  rw [← hnl] at hn ⊢
  have HN := Lib.hid hnl
  clear h hap hok hnl
  go_enter Tryz.func31, Tryz.ntmps31
  go_wp2_with fail
  go_step3
  go_wp2_with fail
  go_step3
  go_wp2_with fail
  obtain ⟨W1, hW1⟩ : ∃ W1, W1 = ((((w.alloc (.cells #[.string ⟨#[]⟩, .string ⟨#[]⟩, .slice none 0 0, .slice none 0 0] 27)).alloc (.cells #[.string ⟨#[]⟩, .string ⟨#[]⟩, .slice none 0 0, .slice none 0 0] 27)).alloc (.cells #[.pointer (some ⟨w.heap.size + 1, 0, none⟩)] 122)).alloc (.cells #[.slice (some ⟨w.heap.size + 1 + 1, 0, none⟩) 1 1] 125)) := ⟨_, rfl⟩
  have HB1 : Hid (Below w.heap.size w W1) := Lib.hid (by rw [hW1]; exact ((((Below.refl _ w).alloc (Nat.le_refl _) _).alloc (by simp) _).alloc (by simp; omega) _).alloc (by simp; omega) _)
  have HRC1 : Hid (Box4 w.heap.size ⟨#[]⟩ ⟨#[]⟩ (.slice none 0 0) (.slice none 0 0) W1) := Lib.hid (by rw [hW1]; show ((((w.heap.push _).push _).push _).push _)[_]? = _; rw [Array.getElem?_push, if_neg (by simp only [Array.size_push]; omega), Array.getElem?_push, if_neg (by simp only [Array.size_push]; omega), Array.getElem?_push, if_neg (by simp only [Array.size_push]; omega), Array.getElem?_push, if_pos rfl])
  have HP1 : Hid (Box4 (w.heap.size + 1) ⟨#[]⟩ ⟨#[]⟩ (.slice none 0 0) (.slice none 0 0) W1) := Lib.hid (by rw [hW1]; show ((((w.heap.push _).push _).push _).push _)[_]? = _; rw [Array.getElem?_push, if_neg (by simp only [Array.size_push]; omega), Array.getElem?_push, if_neg (by simp only [Array.size_push]; omega), Array.getElem?_push, if_pos (by simp only [Array.size_push])])
  have HG1 : Hid (W1.heap[w.heap.size + 2]? = some (.cells #[.pointer (some ⟨w.heap.size + 1, 0, none⟩)] 122 (0, 0))) := Lib.hid (by rw [hW1]; show ((((w.heap.push _).push _).push _).push _)[_]? = _; rw [Array.getElem?_push, if_neg (by simp only [Array.size_push]; omega), Array.getElem?_push, if_pos (by simp only [Array.size_push])])
  have HR1 : Hid (W1.heap[w.heap.size + 3]? = some (.cells #[.slice (some ⟨w.heap.size + 2, 0, none⟩) 1 1] 125 (0, 0))) := Lib.hid (by rw [hW1]; show ((((w.heap.push _).push _).push _).push _)[_]? = _; rw [Array.getElem?_push, if_pos (by simp only [Array.size_push])])
  have HI1 := Lib.hid (RInv.start HH.out HAP.out hb0 HB1.out HP1.out HG1.out HR1.out)
  rw [← hW1]
  clear hW1
  obtain ⟨rb, hrb⟩ : ∃ rb, rb = w.heap.size + 3 := ⟨_, rfl⟩
  rw [← hrb] at HI1
  rw [show w.heap.size + 1 + 1 + 1 = rb by omega]
  have HRBQ := Lib.hid hrb
  clear hrb
  go_loopw [6, 16] (fun o i wr => ∃ (k : Nat) (fs : List Fr) (root : Option Tr) (ρ : Part) (ps : List Nat) (vs : List (Value × Value)) (g cg : Nat), k ≤ n ∧ o = .int .i64 k ∧ i = .int .i64 k ∧ Hid (RInv l base a c rb w k fs root ρ ps vs g cg wr) ∧ Hid (Box4 w.heap.size ⟨#[]⟩ ⟨#[]⟩ (.slice none 0 0) (.slice none 0 0) wr)) (fun _ i _ => n - (intOf i).toNat)
  case atStart => exact ⟨0, [], none, _, _, _, _, _, by omega, rfl, rfl, HI1, HRC1⟩
  case round =>
    obtain ⟨k, fs, root, ρ, ps, vs, g, cg, hk, rfl, rfl, HI, HRC⟩ := hrel
    have hrcl := HRC.out.lt
    by_cases hlt : k < n
    · obtain ⟨x, hxk⟩ := tag_of (l := l) (k := k) (by rw [← HN.out]; exact hlt)
      have HX := Lib.hid hxk
      have hxm : x ∈ l := List.mem_of_getElem? hxk
      obtain ⟨q1, q2, q3⟩ := HOK.out x hxm
      obtain ⟨h1, h2, h3, h4, h5, h6, h7, h8, h9, h10, h11, h12⟩ := HI.out
      rw [← HN.out] at h7
      rcases own_form h7 with ⟨_, _, h99⟩ | ⟨gt, rfl, hct, hnc⟩
      · omega
      · have cell : ∀ i v, (tokCells x.1 x.2).toList[i]? = some v → wr.cell? ⟨gt, k * 5 + i, none⟩ = some v := fun i v hv => by
          have hkl : k < l.length := by rw [← HN.out]; exact hlt
          have e1 : l[k]'hkl = x := by
            have := List.getElem?_eq_some_iff.1 hxk
            exact this.2
          have h8 := hct _ _ (tv_get l k hkl i v (by rw [e1]; exact hv))
          rw [add_zero_at] at h8
          exact h8
        have t0 := cell 0 _ rfl
        have t1 := cell 1 _ rfl
        have t2 := cell 2 _ rfl
        have t3 := cell 3 _ rfl
        have t4 := cell 4 _ rfl
        rw [Nat.add_zero] at t0
        obtain ⟨x1, x2⟩ := x
        obtain ⟨ki, nm, tx, al, em⟩ := x1
        simp only at t0 t1 t2 t3 t4
        obtain ⟨ax, cx, hx2⟩ := own_sl (h9 k _ (Nat.le_refl _) hxk).1
        simp only at hx2
        obtain ⟨na, hna⟩ : ∃ na, na = al.length := ⟨_, rfl⟩
        rw [← hna] at hx2
        have HNA := Lib.hid hna
        subst hx2
        clear hna
        have hi0 : (0 : Int) ≤ k := by omega
        have hi1 : (k : Int) < n := by omega
        have hsB : base ≤ wr.heap.size := by omega
        have hsm : Small 1000000 1000000 fs := by
          have hk6 := h5.1
          have := sumX_mono (l.map (·.1)) k
          exact ⟨by omega, fun f hf => ⟨by have := (h5.2 f hf).1; omega, fun T hT => by have := (h5.2 f hf).2 T hT; omega⟩⟩
        have HTK : Hid (∀ W, Below wr.heap.size wr W → Calls Tryz.prog (takerF ki) #[.pointer (some ⟨rb, 0, none⟩), .agg #[.int .i64 ki, .string ⟨nm.toArray⟩, .string ⟨tx.toArray⟩, .slice ax na cx, .bool em]] W fun e w' => TakePost base rb k ρ W (stepA fs root ⟨ki, nm, tx, al, em⟩) e w') := Lib.hid (fun W hW => by
          have h13 := h9 k _ (Nat.le_refl _) hxk
          exact take_any ⟨ki, nm, tx, al, em⟩ (.slice ax na cx) (h6.below hW) h3 (own_bel h13.1 hW) h13.2 (fun e => (q1 e).2) q2 hsm q3 (Nat.le_trans hsB hW.size))
        have HNX : Hid (∀ W w' fs' root' ρ' ps' vs' g' cg', Below wr.heap.size wr W → Below base W w' → stepA fs root ⟨ki, nm, tx, al, em⟩ = some (fs', root') → RdV ρ' w' base rb (stk fs' root') ps' vs' g' cg' → (∀ b, b < W.heap.size → Fix k (ρ b) → ρ' b = ρ b ∧ w'.heap[b]? = W.heap[b]?) → RInv l base (some ⟨gt, 0, none⟩) c rb w (k + 1) fs' root' ρ' ps' vs' g' cg' w' ∧ Box4 w.heap.size ⟨#[]⟩ ⟨#[]⟩ (.slice none 0 0) (.slice none 0 0) w') := Lib.hid (by
          intro W w' fs' root' ρ' ps' vs' g' cg' hW hb hs hR hf
          have hf2 : ∀ b, b < wr.heap.size → Fix k (ρ b) → ρ' b = ρ b ∧ w'.heap[b]? = wr.heap[b]? := fun b hb2 hfx => by
            have h13 := hf b (by have := hW.size; omega) hfx
            exact ⟨h13.1, h13.2.trans (hW.block b hb2)⟩
          refine ⟨HI.out.next HX.out (fun e => (q1 e).1) hs hR hf2 ((hW.mono hsB).trans hb) hrcl, ?_⟩
          exact (hf2 _ hrcl (.inl h12)).2.trans HRC.out)
        have HER : Hid (stepA fs root ⟨ki, nm, tx, al, em⟩ = none → treeL (l.map (·.1)) = .error k) := Lib.hid (fun e => by
          have hxm2 : (l.map (·.1))[k]? = some ⟨ki, nm, tx, al, em⟩ := by rw [List.getElem?_map, HX.out]; rfl
          obtain ⟨hk7, hk8⟩ := List.getElem?_eq_some_iff.1 hxm2
          rw [h2, List.drop_eq_getElem_cons hk7, hk8, stepA_tree h3, e])
        have HBW := Lib.hid h10
        have HLT := Lib.hid hlt
        clear h1 h2 h3 h4 h5 h6 h7 h8 h9 h10 h11 h12 q1 q2 q3 hxm hxk hct cell hsm
        go_wp2_with fail
        obtain ⟨W2, hW2⟩ : ∃ W2, W2 = wr.alloc (.cells #[.int .i64 ki, .string ⟨nm.toArray⟩, .string ⟨tx.toArray⟩, .slice ax na cx, .bool em] 119) := ⟨_, rfl⟩
        have HB2 : Hid (Below wr.heap.size wr W2) := Lib.hid (by rw [hW2]; exact (Below.refl _ wr).alloc (Nat.le_refl _) _)
        have HX2 : Hid (BoxK wr.heap.size ki ⟨nm.toArray⟩ ⟨tx.toArray⟩ (.slice ax na cx) em W2) := Lib.hid (by rw [hW2]; exact BoxK.made _ _ _ _ _ _)
        rw [← hW2]
        clear hW2 t0 t1 t2 t3 t4
        obtain ⟨t0, t1, t2, t3, t4, _⟩ := HX2.out.at
        (with_reducible refine (taker_any rb ki _).mono ?_)
        rintro e w3 ⟨rfl, rfl⟩
        have HTK2 := Lib.hid (HTK.out _ HB2.out)
        rcases takerF_four ki with hF | hF | hF | hF
        all_goals (
          rw [hF] at HTK2 ⊢
          clear HTK
          go_wp2_with fail
          (with_reducible refine HTK2.out.mono ?_)
          rintro e w4 ⟨hb4, ⟨hno, rfl, hbn⟩ | ⟨fs4, root4, ρ4, ps4, vs4, g4, c4, hst, rfl, hR4, hf4⟩⟩
          · have HE := Lib.hid (HER.out hno)
            have HB4 : Hid (Below base w w4) := Lib.hid (HBW.out.trans ((HB2.out.mono hsB).trans hb4))
            have HRZ := Lib.hid ((HRC.out.below HB2.out (Nat.le_refl _)).below hbn (Nat.le_refl _))
            obtain ⟨r0, r1, r2, r3⟩ := HRZ.out.at
            have fr0 := HRZ.out.thaw 0
            have fr1 := HRZ.out.thaw 1
            have fr2 := HRZ.out.thaw 2
            have fr3 := HRZ.out.thaw 3
            clear hb4 hno hF hbn
            go_wp2_with fail
            (try rw [Exit.noGoto_ret])
            refine ret_tree2 rfl rfl (HRZ.out.set4 _ _ _ _) rfl ?_
            exact ⟨below_set4 HB4.out hb0 _ _ _ _, .inl ⟨k, HE.out, rfl⟩⟩
          · obtain ⟨hI, hB⟩ := HNX.out _ _ _ _ _ _ _ _ _ HB2.out hb4 hst hR4 hf4
            have HI9 := Lib.hid hI
            have HB9 := Lib.hid hB
            clear hb4 hst hR4 hf4 hI hB hF
            go_wp2
            exact ⟨⟨k + 1, fs4, root4, ρ4, ps4, vs4, g4, c4, by omega, by go_num, by go_num, HI9, HB9⟩, by simp [intOf]; omega⟩)
    · obtain rfl : n = k := by omega
      obtain ⟨h1, h2, h3, h4, h5, h6, h7, h8, h9, h10, h11, h12⟩ := HI.out
      rw [List.drop_of_length_le (by rw [List.length_map, ← HN.out]; omega)] at h2
      have HWH := Lib.hid (whole_any h6)
      have HT := Lib.hid h2
      have HBW := Lib.hid h10
      have HOK3 := Lib.hid h3
      clear h1 h2 h3 h4 h5 h6 h7 h8 h9 h10 h11 h12
      cases root with
      | none =>
        have HE : Hid (treeL (l.map (·.1)) = .error n) := Lib.hid (by
          rw [HT.out]
          unfold treeA
          cases fs <;> rfl)
        obtain ⟨wf, hwf⟩ : ∃ wf, wf = wr := ⟨_, rfl⟩
        go_wp2_with fail
        (with_reducible refine HWH.out.mono ?_)
        rintro e w4 ⟨rfl, hb4⟩
        have HRZ := Lib.hid (HRC.out.below hb4 (Nat.le_refl _))
        have HB4 : Hid (Below base w w4) := Lib.hid (HBW.out.trans (hb4.mono (by omega)))
        obtain ⟨r0, r1, r2, r3⟩ := HRZ.out.at
        have fr0 := HRZ.out.thaw 0
        have fr1 := HRZ.out.thaw 1
        have fr2 := HRZ.out.thaw 2
        have fr3 := HRZ.out.thaw 3
        clear hb4
        go_wp2_with fail
        (try rw [Exit.noGoto_ret])
        refine ret_tree2 rfl rfl (HRZ.out.set4 _ _ _ _) rfl ?_
        exact ⟨below_set4 HB4.out hb0 _ _ _ _, .inl ⟨n, HE.out, rfl⟩⟩
      | some T =>
        have hfs : fs = [] := by
          cases fs with
          | nil => rfl
          | cons f q => have := HOK3.out.1 (by simp); cases this
        subst hfs
        have HE : Hid (treeL (l.map (·.1)) = .ok T) := Lib.hid HT.out
        go_wp2_with fail
        (with_reducible refine HWH.out.mono ?_)
        rintro e w4 ⟨rfl, hb4⟩
        have HRZ := Lib.hid (HRC.out.below hb4 (Nat.le_refl _))
        have HB4 : Hid (Below base w w4) := Lib.hid (HBW.out.trans (hb4.mono (by omega)))
        have HR4 := Lib.hid (HI.out.2.2.2.2.2.1.below hb4)
        clear hb4
        have HPZ : Hid (ρ w.heap.size = (7, 0)) := Lib.hid HI.out.2.2.2.2.2.2.2.2.2.2.2
        obtain ⟨p9, qs9, va9, vk9, q9, e9, rfl⟩ := HR4.out.cons (t := .node [] [] [] [T]) (r := [])
        subst e9
        have HTP := Lib.hid (top_any (t := .node [] [] [] [T]) (r := []) HR4.out)
        go_wp2_with fail
        (with_reducible refine HTP.out.mono ?_)
        rintro e w5 ⟨rfl, hb5⟩
        have HRY := Lib.hid (HRZ.out.below hb5 (Nat.le_refl _))
        have HB5 : Hid (Below base w w5) := Lib.hid (HB4.out.trans (hb5.mono (by have := HB4.out.size; omega)))
        obtain ⟨p, b, cc, va2, vk2, ep, c3, hT5, c4, c5, c6, c7⟩ := (HR4.out.below hb5).only
        obtain ⟨rfl, rfl⟩ := List.cons.inj ep
        obtain ⟨_, _, a6, d6, n6, k6, m6, j6, e6⟩ := hT5.four
        simp only [List.cons.injEq] at e6
        obtain ⟨_, _, rfl, rfl, _⟩ := e6
        have HT5 := Lib.hid hT5
        obtain ⟨r0, r1, r2, r3⟩ := HRY.out.at
        have fr0 := HRY.out.thaw 0
        have fr1 := HRY.out.thaw 1
        have fr2 := HRY.out.thaw 2
        have fr3 := HRY.out.thaw 3
        clear hb5 hT5 ep
        go_wp2_with fail
        (try rw [Exit.noGoto_ret])
        refine ret_tree2 rfl rfl (HRY.out.set4 _ _ _ _) rfl ?_
        refine ⟨below_set4 HB5.out hb0 _ _ _ _, .inr ⟨T, _, _, HE.out, rfl, ?_⟩⟩
        exact (TreeS.map (fun h => h.set4 (fun g hg e => by rw [e, HPZ.out] at hg; simp at hg) _ _ _ _) T _ HT5.out).mono (fun g hg _ => hg.1)
end Go.Proofs.YtjldpkhfiffinaaGreatDoor.U

namespace Go.Proofs.YtjldpkhfiffinaaGreatDoor.U
open Go.RowKit Go.Shelf
theorem allT_nzX {l : List UInt8} {p : Nat} {z : Int} (h : allT l = .error (p, z)) : ¬ z = 0 := by
  unfold allT at h
  split at h
  · cases h; decide
  · split at h
    · cases h; decide
    · cases h3 : allL3 (linesL l) with
      | error p => rw [h3] at h; cases h; decide
      | ok us => rw [h3] at h; cases h
/-- What Parse leaves. -/
def ParseP (l : List UInt8) (w : World) (e : Ending) (w' : World) : Prop :=
  Below w.heap.size w w' ∧ ((∃ (p : Nat) (z : Int), parseX l = .error (p, z) ∧ ¬ z = 0 ∧ e = .returned (.tuple #[.agg #[.string ⟨#[]⟩, .string ⟨#[]⟩, .slice none 0 0, .slice none 0 0], .int .i64 p, .int .i64 z])) ∨
    ∃ T a1 n1 c1 a2 n2 c2, parseX l = .ok T ∧ e = .returned (.tuple #[.agg #[.string ⟨(trL T).toArray⟩, .string ⟨(trX T).toArray⟩, .slice a1 n1 c1, .slice a2 n2 c2], .int .i64 0, .int .i64 0]) ∧ TreeV w' T [.string ⟨(trL T).toArray⟩, .string ⟨(trX T).toArray⟩, .slice a1 n1 c1, .slice a2 n2 c2])
theorem TreeS.below {S : Nat → Prop} {w w' : World} {t : Tr} {hs : List Value} (h : TreeS S w t hs) (hb : Below w.heap.size w w') : TreeS S w' t hs := h.keep hb.size (fun g _ hg => hb.block g hg)
set_option maxHeartbeats 4000000 in
set_option maxRecDepth 20000 in
theorem parse_any (a : Option Addr) (len cap : Nat) (l : List UInt8) (w : World) (hm : LayT w) (hz : Byt w a len cap (ints l)) :
    Calls Tryz.prog 9 #[.slice a len cap] w fun e w' => ParseP l w e w' := by
  obtain ⟨W0, hW0⟩ : ∃ W0, W0 = w.alloc (.cells #[.string ⟨#[]⟩, .string ⟨#[]⟩, .slice none 0 0, .slice none 0 0] 27) := ⟨_, rfl⟩
  have HB0 : Hid (Below w.heap.size w W0) := Lib.hid (by rw [hW0]; exact (Below.refl _ w).alloc (Nat.le_refl _) _)
  have HRC : Hid (Box4 w.heap.size ⟨#[]⟩ ⟨#[]⟩ (.slice none 0 0) (.slice none 0 0) W0) := Lib.hid (by rw [hW0]; exact Box4.made _ _ _ _ _)
  have HM0 : Hid (LayT W0) := Lib.hid (hm.below HB0.out hm.size)
  have HAL := Lib.hid (tall_anyD a len cap l W0 HM0.out (hz.below HB0.out (Nat.le_refl _)))
  clear hm hz
  go_enter Tryz.func9, Tryz.ntmps9
  go_wp2_with fail
  rw [← hW0]
  clear hW0
  (with_reducible refine HAL.out.mono ?_)
  rintro e w1 ⟨hb1, ⟨a1, c1, l1, hok, rfl, hrow, hap⟩ | ⟨p, z, her, rfl⟩⟩
  · have HF := Lib.hid (allT_facts hok)
    have HOK := Lib.hid hok
    have HM1 := Lib.hid (HM0.out.below hb1 HM0.out.size)
    have HB1 := Lib.hid (th HB0.out (Nat.le_refl _) hb1)
    have HRC1 := Lib.hid (HRC.out.below hb1 (Nat.le_refl _))
    have HRD := Lib.hid (xread_any l1 a1 c1 w1 hrow hap hb1.size (by have := HF.out.1; rw [List.length_map] at this; omega) (by have := sumX_w (l1.map (·.1)); have := HF.out.2.1; omega) (fun x hx => HF.out.2.2.2.2 x.1 (List.mem_map_of_mem hx)))
    have HWS : Hid (w.heap.size < W0.heap.size) := Lib.hid HRC.out.lt
    have HS1 : Hid (W0.heap.size ≤ w1.heap.size) := Lib.hid hb1.size
    clear hb1 hok hrow hap
    go_wp2_with fail
    (with_reducible refine HRD.out.mono ?_)
    rintro e w2 ⟨hb2, ⟨i, hno, rfl⟩ | ⟨T, va, vk, hT, rfl, htr⟩⟩
    · have HE := Lib.hid (parseX_no HOK.out hno)
      have HRC2 : Hid (Box4 w.heap.size ⟨#[]⟩ ⟨#[]⟩ (.slice none 0 0) (.slice none 0 0) w2) := Lib.hid ((hb2.block _ HWS.out).trans HRC1.out)
      have HB2 : Hid (Below w.heap.size w w2) := Lib.hid (HB1.out.trans (hb2.mono (by have := HWS.out; omega)))
      obtain ⟨W3, hW3⟩ : ∃ W3, W3 = w2.alloc (.cells #[.string ⟨#[]⟩, .string ⟨#[]⟩, .slice none 0 0, .slice none 0 0] 27) := ⟨_, rfl⟩
      have HB3 : Hid (Below w2.heap.size w2 W3) := Lib.hid (by rw [hW3]; exact (Below.refl _ w2).alloc (Nat.le_refl _) _)
      have HRC3 := Lib.hid (HRC2.out.below HB3.out (Nat.le_refl _))
      have HB4 := Lib.hid (th HB2.out (Nat.le_refl _) HB3.out)
      clear hb2 hno
      go_upto_region 5 with fail
      rw [← hW3]
      clear hW3
      obtain ⟨r0, r1, r2, r3⟩ := HRC3.out.at
      have fr0 := HRC3.out.thaw 0
      have fr1 := HRC3.out.thaw 1
      have fr2 := HRC3.out.thaw 2
      have fr3 := HRC3.out.thaw 3
      go_wp2_with fail
      (try rw [Exit.noGoto_ret])
      refine ret_tree2 rfl rfl (HRC3.out.set4 _ _ _ _) rfl ?_
      exact ⟨below_set4 HB4.out (Nat.le_refl _) _ _ _ _, .inl ⟨i, 12, HE.out, by decide, rfl⟩⟩
    · obtain ⟨ts, hts⟩ : ∃ ts, ts = l1.map (·.1) := ⟨_, rfl⟩
      have HFT : Hid (fitT T) := Lib.hid (fitT_w (by
        have h1 := treeL_w (fun t ht hk => ((HF.out.2.2.2.2 t ht).1 hk).1) hT
        have := HF.out.2.1
        omega))
      have htr' := htr
      obtain ⟨lb0, tx0, al0, ks0⟩ := T
      rw [TreeS.eq] at htr'
      obtain ⟨va', vk', e9, ⟨d1, k1, ev1, _⟩, lk, _, ⟨d2, k2, ev2, _⟩⟩ := htr'
      simp only [List.cons.injEq, and_true] at e9
      obtain ⟨_, _, rfl, rfl⟩ := e9
      subst ev1 ev2
      obtain ⟨n1, hn1⟩ : ∃ n1, n1 = al0.length := ⟨_, rfl⟩
      obtain ⟨n2, hn2⟩ : ∃ n2, n2 = ks0.length := ⟨_, rfl⟩
      rw [← hn1, ← hn2] at htr ⊢
      clear hn1 hn2
      obtain ⟨T, hTT⟩ : ∃ T, T = Tr.node lb0 tx0 al0 ks0 := ⟨_, rfl⟩
      rw [← hTT] at hT htr HFT ⊢
      clear hTT
      have HTL := Lib.hid hT
      have HM2 : Hid (LayT w2) := Lib.hid (HM1.out.below hb2 HM0.out.size)
      have HRC2 : Hid (Box4 w.heap.size ⟨#[]⟩ ⟨#[]⟩ (.slice none 0 0) (.slice none 0 0) w2) := Lib.hid ((hb2.block _ HWS.out).trans HRC1.out)
      have HB2 : Hid (Below w.heap.size w w2) := Lib.hid (HB1.out.trans (hb2.mono (by have := HWS.out; omega)))
      obtain ⟨lbb, hlbb⟩ : ∃ x : ByteArray, x = ⟨(trL T).toArray⟩ := ⟨_, rfl⟩
      obtain ⟨txb, htxb⟩ : ∃ x : ByteArray, x = ⟨(trX T).toArray⟩ := ⟨_, rfl⟩
      have HP9 : Hid (∀ w', Below w.heap.size w w' → chkT T = 0 → TreeV w' T [.string lbb, .string txb, .slice d1 n1 k1, .slice d2 n2 k2] → ParseP l w (.returned (.tuple #[.agg #[.string lbb, .string txb, .slice d1 n1 k1, .slice d2 n2 k2], .int .i64 0, .int .i64 0])) w') := Lib.hid (fun w' h1 h2 h3 => ⟨h1, .inr ⟨T, d1, n1, k1, d2, n2, k2, parseX_ok HOK.out HTL.out h2, by rw [hlbb, htxb], by rw [hlbb, htxb] at h3; exact h3⟩⟩)
      rw [← hlbb, ← htxb] at htr ⊢
      have HTV := Lib.hid htr
      clear hlbb htxb
      obtain ⟨W3, hW3⟩ : ∃ W3, W3 = w2.alloc (.cells #[.string lbb, .string txb, .slice d1 n1 k1, .slice d2 n2 k2] 27) := ⟨_, rfl⟩
      have HB3 : Hid (Below w2.heap.size w2 W3) := Lib.hid (by rw [hW3]; exact (Below.refl _ w2).alloc (Nat.le_refl _) _)
      have HX3 : Hid (Box4 w2.heap.size lbb txb (.slice d1 n1 k1) (.slice d2 n2 k2) W3) := Lib.hid (by rw [hW3]; exact Box4.made _ _ _ _ _)
      have HRC3 := Lib.hid (HRC2.out.below HB3.out (Nat.le_refl _))
      have HB4 := Lib.hid (th HB2.out (Nat.le_refl _) HB3.out)
      have HM3 := Lib.hid (HM2.out.below HB3.out HM2.out.size)
      have HT3 := Lib.hid (HTV.out.below HB3.out)
      have HCK := Lib.hid (checkT_any T _ W3 HM3.out.lay.lay (TreeS.v _ _ HT3.out) HFT.out)
      clear hb2 hT htr
      go_upto_region 5 with fail
      rw [← hW3]
      clear hW3
      obtain ⟨x0, x1, x2, x3⟩ := HX3.out.at
      obtain ⟨ck, hck⟩ : ∃ ck, ck = chkT T := ⟨_, rfl⟩
      rw [← hck] at HCK
      have HCQ := Lib.hid hck
      clear hck
      go_wp2_with fail
      (with_reducible refine HCK.out.mono ?_)
      rintro e w4 ⟨rfl, hb4⟩
      have HRC4 := Lib.hid (HRC3.out.below hb4 (Nat.le_refl _))
      have HX4 := Lib.hid (HX3.out.below hb4 (Nat.le_refl _))
      have HB5 := Lib.hid (th HB4.out (Nat.le_refl _) hb4)
      have HT4 := Lib.hid (HT3.out.below hb4)
      clear hb4 x0 x1 x2 x3
      obtain ⟨x0, x1, x2, x3⟩ := HX4.out.at
      obtain ⟨r0, r1, r2, r3⟩ := HRC4.out.at
      have fr0 := HRC4.out.thaw 0
      have fr1 := HRC4.out.thaw 1
      have fr2 := HRC4.out.thaw 2
      have fr3 := HRC4.out.thaw 3
      by_cases hc0 : ck = 0
      · subst hc0
        go_wp2_with fail
        (try rw [Exit.noGoto_ret])
        refine ret_tree2 rfl rfl (HRC4.out.set4 _ _ _ _) rfl ?_
        refine HP9.out _ (below_set4 HB5.out (Nat.le_refl _) _ _ _ _) HCQ.out.symm ?_
        exact TreeS.v _ _ (TreeS.map (fun h => h.set4 (fun g hg e => by have := HWS.out; omega) _ _ _ _) T _ HT4.out)
      · have hcb : (ck == 0) = false := beq_eq_false_iff_ne.2 hc0
        have HC0 := Lib.hid hc0
        clear hc0
        go_wp2_with fail
        (try rw [Exit.noGoto_ret])
        refine ret_tree2 rfl rfl (HRC4.out.set4 _ _ _ _) rfl ?_
        exact ⟨below_set4 HB5.out (Nat.le_refl _) _ _ _ _, .inl ⟨0, ck, by rw [HCQ.out]; exact parseX_bad HOK.out HTL.out (by rw [← HCQ.out]; exact HC0.out), HC0.out, rfl⟩⟩
  · have HE := Lib.hid (parseX_err her)
    have HZ := Lib.hid (allT_nzX her)
    have hzb : (z == 0) = false := beq_eq_false_iff_ne.2 HZ.out
    have HRC1 := Lib.hid (HRC.out.below hb1 (Nat.le_refl _))
    have HB1 := Lib.hid (th HB0.out (Nat.le_refl _) hb1)
    clear hb1 her
    obtain ⟨r0, r1, r2, r3⟩ := HRC1.out.at
    have fr0 := HRC1.out.thaw 0
    have fr1 := HRC1.out.thaw 1
    have fr2 := HRC1.out.thaw 2
    have fr3 := HRC1.out.thaw 3
    go_wp2_with fail
    (try rw [Exit.noGoto_ret])
    refine ret_tree2 rfl rfl (HRC1.out.set4 _ _ _ _) rfl ?_
    exact ⟨below_set4 HB1.out (Nat.le_refl _) _ _ _ _, .inl ⟨p, z, HE.out, HZ.out, rfl⟩⟩
end Go.Proofs.YtjldpkhfiffinaaGreatDoor.U
