/- The law's own small functions of layer 3: plain, awake. -/
import Derived.Test.YtihijgghcecpmaaGreatDoorAl
import Derived.Test.YtihijgghcecpmaaGreatDoorQ19
import Derived.Lib.SlBytesConst
import Derived.Test.YtihijgghcecpmaaGreatDoorQ2
namespace Go.Proofs.YtihijgghcecpmaaGreatDoor.U
open Go.RowKit Go.Shelf

/-- A call's ending with a struct's variable. -/
theorem ret_cell1 {P : Program} {fn : Func} {R : Ending → World → Prop} {a : Act} {w : World} {p : Tmp} {ty t : TypeId} {g : Nat} {cs : Array Value} {fr : Nat × Nat} {d : TypeDesc}
    (h : fn.results = #[.cell p ty]) (hp : a.tmps.getD p undef = .pointer (some ⟨g, 0, none⟩)) (hg : w.heap[g]? = some (.cells cs t fr))
    (hu : P.underlying ty = some d) (hd : (match d with | .struct _ | .array _ _ => true | _ => false) = true) (hi : (P.info? ty).map (·.size) = some cs.size) (hf : a.defers = [])
    (hR : R (.returned (.agg cs)) w) : bodyPost P fn R .ret a w :=
  bodyPost_ret (v := .agg cs) (results_cell_row h a.tmps w g t cs fr d hp hg hu hd hi) hf hR

set_option maxHeartbeats 1000000 in
theorem plain_any (ki : Int) (n x : ByteArray) (a : Option Addr) (l c : Nat) (em : Bool) (w : World) :
    Calls Tryz.prog 14 #[.agg #[.int .i64 ki, .string n, .string x, .slice a l c, .bool em]] w fun e w' => e = .returned (.agg #[.int .i64 ki, .string n, .string x, .slice a l c, .bool em]) ∧ Below w.heap.size w w' := by
  obtain ⟨w1, hw1⟩ : ∃ w1, w1 = w.alloc (.cells #[.int .i64 ki, .string n, .string x, .slice a l c, .bool em] 40) := ⟨_, rfl⟩
  have HB1 : Below w.heap.size w w1 := by rw [hw1]; exact (Below.refl _ w).alloc (Nat.le_refl _) _
  have HB2 : Below w.heap.size w (w1.alloc (.cells #[.int .i64 0, .string ⟨#[]⟩, .string ⟨#[]⟩, .slice none 0 0, .bool false] 38)) := al HB1 (Nat.le_refl _) _
  have HK1 : BoxK w.heap.size ki n x (.slice a l c) em w1 := by rw [hw1]; exact BoxK.made _ _ _ _ _ _
  have HK1' := HK1.below ((Below.refl _ w1).alloc (Nat.le_refl _) (.cells #[.int .i64 0, .string ⟨#[]⟩, .string ⟨#[]⟩, .slice none 0 0, .bool false] 38))
  have hsz : w1.heap.size = w.heap.size + 1 := by rw [hw1]; simp
  have HK2 := Lib.hid (Box5.new w1)
  rw [hsz] at HK2
  have HK3 := Lib.hid (Box5.made ki n x (.slice a l c) w1 (em := em))
  rw [hsz] at HK3
  have HB3 := Lib.hid (al HB1 (Nat.le_refl _) (.cells #[.int .i64 ki, .string n, .string x, .slice a l c, .bool em] 38))
  clear HB2 hsz
  subst hw1
  obtain ⟨c0, c1, c2, c3, c4, _⟩ := HK1'.at
  obtain ⟨d0, d1, d2, d3, d4, f0, f1, f2, f3, f4⟩ := HK2.out.at
  clear HK1 HK1' HB1
  go_enter Tryz.func14, Tryz.ntmps14
  go_wp2
  refine ret_cell1 rfl rfl HK3.out Tryz.underlying38 rfl (by kernel_rfl) rfl ?_
  exact ⟨rfl, HB3.out⟩
end Go.Proofs.YtihijgghcecpmaaGreatDoor.U

/- The law's own small functions of layer 3: awake. -/
namespace Go.Proofs.YtihijgghcecpmaaGreatDoor.U
open Go.RowKit Go.Shelf

theorem built_mark (w : World) (zs : List Int) (fr : Nat × Nat) (hb : ∀ z ∈ zs, 0 ≤ z ∧ z ≤ 255) (hn : zs.length ≤ 140737488351232) : Byt (w.alloc (.cells (zs.map (Value.int .u8)).toArray 5 fr)) (some ⟨w.heap.size, 0, none⟩) zs.length zs.length zs := by
  refine ⟨rfl, Nat.le_refl _, hn, hb, fun _ => ⟨w.heap.size, 0, rfl, fun i hi => ?_⟩⟩
  rw [World.cell?_alloc_mark]
  simp [List.getElem?_eq_getElem hi]
/-- What the call owns lies at the beginning of a block. -/
theorem own_at0 {w : World} {base n size : Nat} {e : TypeId} {a : Option Addr} {c : Nat} {xs : List Value} (h : w.ownsRow base e size (.slice a n c) n xs) (h0 : 0 < n) : ∃ g, a = some ⟨g, 0, none⟩ ∧ n ≤ c ∧ ∀ j u, xs[j]? = some u → w.cell? ⟨g, j, none⟩ = some u := by
  rcases h.2 with ⟨_, h1⟩ | ⟨g, cap, cur, hv, hr⟩
  · omega
  · injection hv with e1 e2 e3
    subst e1 e3
    refine ⟨g, rfl, hr.2.2.1, fun j u hu => ?_⟩
    have := h.cells rfl j u hu
    have e2 : (⟨g, 0, none⟩ : Addr).add j = ⟨g, j, none⟩ := by unfold Addr.add; split <;> simp_all
    rw [e2] at this
    exact this

def exL : List UInt8 := [60, 97, 32, 98, 61, 39, 49, 39, 62, 120, 38, 97, 109, 112, 59, 121, 60, 47, 97, 62]
def exT : List Tok := [⟨2, [97], [], [([98], [49])], false⟩, ⟨4, [], [120, 38, 121], [], false⟩, ⟨3, [97], [], [], false⟩]
theorem ex_all : allT exL = .ok exT := by kernel_rfl

set_option maxHeartbeats 4000000 in
set_option maxRecDepth 10000 in
theorem awake3_any (w : World) (hm : LayT w) : Calls Tryz.prog 8 #[] w fun e w' => e = .returned (.bool true) ∧ Below w.heap.size w w' := by
  have HB1 := Lib.hid ((Below.refl _ w).alloc (Nat.le_refl _) (.cells ((ints exL).map (Value.int .u8)).toArray 5 (20, 21)))
  have hby := built_mark w (ints exL) (20, 21) (by decide) (by decide)
  have hcv := Lib.run_convert_bytes_const (P := Tryz.prog) w 22 5 ((ints exL).map (Value.int .u8)).toArray 20 20 Tryz.underlying22 Tryz.underlying5
  rw [show (((ints exL).map (Value.int .u8)).toArray : Array Value) = #[.int .u8 60, .int .u8 97, .int .u8 32, .int .u8 98, .int .u8 61, .int .u8 39, .int .u8 49, .int .u8 39, .int .u8 62, .int .u8 120, .int .u8 38, .int .u8 97, .int .u8 109, .int .u8 112, .int .u8 59, .int .u8 121, .int .u8 60, .int .u8 47, .int .u8 97, .int .u8 62] from rfl] at hcv
  rw [show ((#[.int .u8 60, .int .u8 97, .int .u8 32, .int .u8 98, .int .u8 61, .int .u8 39, .int .u8 49, .int .u8 39, .int .u8 62, .int .u8 120, .int .u8 38, .int .u8 97, .int .u8 109, .int .u8 112, .int .u8 59, .int .u8 121, .int .u8 60, .int .u8 47, .int .u8 97, .int .u8 62] : Array Value)).size = 20 from rfl] at hcv
  have hta := tall_any (some ⟨w.heap.size, 0, none⟩) 20 20 exL _ (hm.below HB1.out hm.size) hby
  rw [ex_all] at hta
  have HTA := Lib.hid hta
  clear hta hby hm
  go_enter Tryz.func8, Tryz.ntmps8
  go_wp2_with fail
  refine HTA.out.mono ?_
  rintro e w2 ⟨hb, ⟨a, c, l, ho, rfl, hrow⟩ | ⟨p, z, ho, _⟩⟩
  · have HB2 := Lib.hid (HB1.out.trans (hb.mono HB1.out.size))
    injection ho with ho
    match l, ho, hrow with
    | [(t0, v0), (t1, v1), (t2, v2)], ho, hrow =>
      simp only [List.map_cons, List.map_nil, exT, List.cons.injEq, and_true] at ho
      obtain ⟨rfl, rfl, rfl⟩ := ho
      obtain ⟨g, rfl, hc3, hg⟩ := own_at0 hrow.1 (by simp)
      have hr0 := hrow.2 (⟨2, [97], [], [([98], [49])], false⟩, v0) (by simp)
      obtain ⟨a0, c0, hv0⟩ := own_slice hr0
      simp only at hv0 hr0
      subst hv0
      obtain ⟨g0, rfl, _, hg0⟩ := own_at0 hr0 (by simp)
      have k0 := hg 0 (.int .i64 2) rfl
      have k1 := hg 1 (.string ⟨#[97]⟩) rfl
      have k3 := hg 3 (.slice (some ⟨g0, 0, none⟩) 1 c0) rfl
      have k5 := hg 5 (.int .i64 4) rfl
      have k7 := hg 7 (.string ⟨#[120, 38, 121]⟩) rfl
      have k10 := hg 10 (.int .i64 3) rfl
      have k11 := hg 11 (.string ⟨#[97]⟩) rfl
      have q0 := hg0 0 (.string ⟨#[98]⟩) rfl
      have q1 := hg0 1 (.string ⟨#[49]⟩) rfl
      clear hrow hg hg0 hr0 hb
      go_wp2
      go_ret
      exact ⟨rfl, HB2.out⟩
  · cases ho
end Go.Proofs.YtihijgghcecpmaaGreatDoor.U

/- Rows of pieces, wherever they lie; what has been read has few attributes. -/
namespace Go.Proofs.YtihijgghcecpmaaGreatDoor.U
open Go.RowKit Go.Shelf

theorem tv_get : ∀ (l : List (Tok × Value)) (k : Nat) (h : k < l.length) (i : Nat) (v : Value), (tokCells (l[k]'h).1 (l[k]'h).2).toList[i]? = some v → (tvCells l)[k * 5 + i]? = some v := by
  intro l
  induction l with
  | nil => intro k h; simp at h
  | cons x r ih =>
    intro k h i v hv
    have e : tvCells (x :: r) = (tokCells x.1 x.2).toList ++ tvCells r := by unfold tvCells; rw [List.flatMap_cons]
    have e5 : (tokCells x.1 x.2).toList.length = 5 := rfl
    rw [e]
    cases k with
    | zero =>
      have hi : i < 5 := by
        have := (List.getElem?_eq_some_iff.1 hv).1
        exact this
      rw [List.getElem?_append_left (by rw [e5]; omega), Nat.zero_mul, Nat.zero_add]
      exact hv
    | succ k =>
      rw [List.getElem?_append_right (by rw [e5]; omega), e5, show (k + 1) * 5 + i - 5 = k * 5 + i by omega]
      exact ih k (by simpa using h) i v hv

/-- A row of pieces, wherever it lies. -/
def TokAt (w : World) (v : Value) (ts : List Tok) : Prop :=
  ∃ l : List (Tok × Value), l.map (·.1) = ts ∧ AtRow w v ts.length 5 (tvCells l) ∧ ∀ x ∈ l, AtRow w x.2 x.1.attrs.length 2 (attrCells x.1.attrs)
theorem TokAt.below {w w' : World} {v : Value} {ts : List Tok} {B : Nat} (h : TokAt w v ts) (hb : Below B w w') (hB : w.heap.size ≤ B) : TokAt w' v ts := by
  obtain ⟨l, h1, h2, h3⟩ := h
  exact ⟨l, h1, h2.below hb hB, fun x hx => (h3 x hx).below hb hB⟩
theorem TokRowK.at {w : World} {base : Nat} {v : Value} {l : List (Tok × Value)} (h : TokRowK w base v l) : TokAt w v (l.map (·.1)) :=
  ⟨l, rfl, by rw [List.length_map]; exact AtRow.of_own h.1, fun x hx => AtRow.of_own (h.2 x hx)⟩
theorem TokRow.at {w : World} {base : Nat} {v : Value} {l : List (Tok × Value)} (h : TokRow w base v l) : TokAt w v (l.map (·.1)) :=
  ⟨l, rfl, by rw [List.length_map]; exact AtRow.of_own h.1, fun x hx => AtRow.of_own (h.2 x hx)⟩
theorem TokAt.slice {w : World} {v : Value} {ts : List Tok} (h : TokAt w v ts) : ∃ a c, v = .slice a ts.length c := by
  obtain ⟨l, _, ⟨a, c, h2, _⟩, _⟩ := h
  exact ⟨a, c, h2⟩
/-- Its cells. -/
theorem TokAt.cells {w : World} {a : Option Addr} {c : Nat} {ts : List Tok} (h : TokAt w (.slice a ts.length c) ts) : ∃ g off, (0 < ts.length → a = some ⟨g, off, none⟩) ∧
    ∀ k (hk : k < ts.length), ∃ a' c', w.cell? ⟨g, off + k * 5, none⟩ = some (.int .i64 (ts[k]'hk).kind) ∧ w.cell? ⟨g, off + k * 5 + 1, none⟩ = some (.string ⟨(ts[k]'hk).name.toArray⟩) ∧ w.cell? ⟨g, off + k * 5 + 2, none⟩ = some (.string ⟨(ts[k]'hk).text.toArray⟩) ∧ w.cell? ⟨g, off + k * 5 + 3, none⟩ = some (.slice a' (ts[k]'hk).attrs.length c') ∧ w.cell? ⟨g, off + k * 5 + 4, none⟩ = some (.bool (ts[k]'hk).empty) ∧ AtRow w (.slice a' (ts[k]'hk).attrs.length c') (ts[k]'hk).attrs.length 2 (attrCells (ts[k]'hk).attrs) := by
  obtain ⟨l, rfl, ⟨a0, c0, hv, _, _, hx⟩, hr⟩ := h
  injection hv with e1 e2 e3
  subst e1 e3
  by_cases h0 : 0 < (l.map (·.1)).length
  · obtain ⟨g, off, hag, hc⟩ := hx h0
    refine ⟨g, off, fun _ => hag, fun k hk => ?_⟩
    have hk' : k < l.length := by simpa using hk
    have hm := hr (l[k]'hk') (List.getElem_mem hk')
    have e : (l.map (·.1))[k]'hk = (l[k]'hk').1 := by simp
    rw [e]
    obtain ⟨a', c', hv', hrest⟩ := hm
    have get : ∀ i v, (tokCells (l[k]'hk').1 (l[k]'hk').2).toList[i]? = some v → w.cell? ⟨g, off + k * 5 + i, none⟩ = some v := fun i v hi => by
      rw [Nat.add_assoc]
      exact hc _ _ (tv_get l k hk' i v hi)
    refine ⟨a', c', get 0 _ rfl, get 1 _ rfl, get 2 _ rfl, ?_, get 4 _ rfl, ⟨a', c', rfl, hrest⟩⟩
    rw [← hv']
    exact get 3 _ rfl
  · exact ⟨0, 0, fun h => absurd h h0, fun k hk => absurd (Nat.lt_of_le_of_lt (Nat.zero_le _) hk) h0⟩

theorem piece_kind {f : Bool} {l : List UInt8} {t : Tok} {n : Nat} (h : pieceL f l = some (t, n)) : t.kind = 2 ∨ t.attrs = [] := by
  unfold pieceL at h
  split at h
  · unfold decL at h
    split at h
    · cases h; exact .inr rfl
    · split at h
      · cases h; exact .inr rfl
      · cases h
  · split at h
    · unfold comL at h
      split at h
      · cases h
      · split at h
        · cases h; exact .inr rfl
        · cases h
    · split at h
      · unfold cdL at h
        split at h
        · cases h
        · cases h; exact .inr rfl
      · split at h
        · unfold closeL at h
          simp only at h
          split at h
          · split at h
            · cases h; exact .inr rfl
            · cases h
          · cases h
        · split at h
          · unfold openL at h
            simp only at h
            split at h
            · split at h
              · cases h
              · cases h; exact .inl rfl
            · cases h
          · unfold textL at h
            simp only at h
            split at h
            · cases h
            · split at h
              · cases h; exact .inr rfl
              · cases h
theorem all_kind : ∀ (f p : Nat) (acc : List Tok) (l : List UInt8) (res : List Tok), (∀ t ∈ acc, t.kind = 2 ∨ t.attrs = []) → allA f p acc l = .ok res → ∀ t ∈ res, t.kind = 2 ∨ t.attrs = [] := by
  intro f
  induction f with
  | zero =>
    intro p acc l res ha h
    cases l with
    | nil =>
      simp only [allA, Except.ok.injEq] at h
      rw [← h]; exact ha
    | cons c r =>
      simp only [allA] at h
      cases h
  | succ f ih =>
    intro p acc l res ha h
    cases l with
    | nil =>
      simp only [allA, Except.ok.injEq] at h
      rw [← h]; exact ha
    | cons c r =>
      simp only [allA] at h
      split at h
      · cases h
      · rename_i x n hp
        refine ih _ _ _ _ ?_ h
        intro t ht
        rcases List.mem_append.1 ht with h1 | h1
        · exact ha t h1
        · obtain rfl := List.mem_singleton.1 h1
          exact piece_kind hp
theorem all_short : ∀ (f p : Nat) (acc : List Tok) (l : List UInt8), Whole l → (∀ b ∈ l, b ≠ 13) → ∀ res, allA f p acc l = .ok res → res.length ≤ acc.length + l.length := by
  intro f
  induction f with
  | zero =>
    intro p acc l _ _ res h
    cases l with
    | nil =>
      simp only [allA, Except.ok.injEq] at h
      rw [← h]; simp
    | cons c r =>
      simp only [allA] at h
      cases h
  | succ f ih =>
    intro p acc l hw h13 res h
    cases l with
    | nil =>
      simp only [allA, Except.ok.injEq] at h
      rw [← h]; simp
    | cons c r =>
      simp only [allA] at h
      split at h
      · cases h
      · rename_i x n hp
        obtain ⟨_, h1, h2, _, h4⟩ := piece_ok hw h13 (by simp) hp
        have := ih _ _ _ h4 (fun b hb => h13 b (List.mem_of_mem_drop hb)) res h
        rw [List.length_append, List.length_singleton, List.length_drop] at this
        omega
theorem flat_ge : ∀ al : List (List UInt8 × List UInt8), al.length ≤ (al.flatMap attrT).length := by
  intro al
  induction al with
  | nil => simp
  | cons a r ih =>
    simp only [List.flatMap_cons, List.length_append, List.length_cons]
    have : 1 ≤ (attrT a).length := by unfold attrT; simp
    omega
theorem textT_mem {t : Tok} {ts : List Tok} (h : t ∈ ts) : (textT t).length ≤ (ts.flatMap textT).length := by
  induction ts with
  | nil => cases h
  | cons x r ih =>
    simp only [List.flatMap_cons, List.length_append]
    rcases List.mem_cons.1 h with rfl | h
    · omega
    · have := ih h; omega
theorem all_short3 {l : List UInt8} {ts : List Tok} (hw : Whole l) (h13 : ∀ b ∈ l, b ≠ 13) (h : allL3 l = .ok ts) : ts.length ≤ l.length := by
  have := all_short l.length 0 [] l hw h13 ts h
  simpa using this
/-- What has been read has few attributes. -/
theorem all_few {l : List UInt8} {ts : List Tok} (hw : Whole l) (h13 : ∀ b ∈ l, b ≠ 13) (h : allL3 l = .ok ts) : (∀ t ∈ ts, t.attrs.length ≤ 6 * l.length) ∧ okAll true ts = true ∧ (ts.flatMap textT).length ≤ 6 * l.length := by
  unfold allL3 at h
  obtain ⟨us, h1, h2, h3⟩ := (all_ok l.length 0 [] l hw h13 (Nat.le_refl _)).1 ts h
  rw [List.nil_append] at h1
  subst h1
  refine ⟨fun t ht => ?_, h2, h3⟩
  rcases all_kind _ _ _ _ _ (fun t ht => by cases ht) h t ht with hk | ha
  · have h4 := textT_mem ht
    have h5 : t.attrs.length ≤ (textT t).length := by
      unfold textT
      rw [if_neg (by rw [hk]; decide), if_pos hk]
      have := flat_ge t.attrs
      simp only [List.length_cons, List.length_append]
      omega
    omega
  · rw [ha]; simp
end Go.Proofs.YtihijgghcecpmaaGreatDoor.U
