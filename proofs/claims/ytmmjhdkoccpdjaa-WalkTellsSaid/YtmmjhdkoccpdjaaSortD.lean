/- What walk's Sort does with at most 19 names of which no two are one. Conditions: these. -/
import Derived.Test.YtmmjhdkoccpdjaaSortC
namespace Go.Proofs.Ytmmjhdkoccpdjaa
open Go Go.RowKit Go.Shelf

theorem infoPlaced : (Try.prog.info? 86).map (fun i => (i.zero, i.size, i.bytes)) = some (some (.agg #[.string ⟨#[]⟩, .slice none 0 0]), 2, 40) := by kernel_rfl

theorem Keeps.ownsRow2 {K : Nat → Prop} {w w' : World} (h : Keeps K w w') {base size n : Nat} {e : TypeId} {v : Value} {xs : List Value} (hr : w.ownsRow base e size v n xs) (hp : ∀ k, v.ownBlock = some k → K k) : w'.ownsRow base e size v n xs := by
  refine ⟨hr.1, ?_⟩
  rcases hr.2 with hn | ⟨g, cap, cur, rfl, hb, hgg, rest⟩
  · exact .inl hn
  · exact .inr ⟨g, cap, cur, rfl, hb, h.heap hgg (hp g rfl), rest⟩
theorem rows_apart {w : World} {b1 b2 s1 s2 n1 n2 : Nat} {e1 e2 : TypeId} {v1 v2 : Value} {xs1 xs2 : List Value} (h1 : w.ownsRow b1 e1 s1 v1 n1 xs1) (h2 : w.ownsRow b2 e2 s2 v2 n2 xs2) (he : e1 ≠ e2) :
    ∀ k, v1.ownBlock = some k → v2.ownBlock ≠ some k := by
  intro k hk1 hk2
  rcases h1.2 with ⟨rfl, _⟩ | ⟨g1, _, _, rfl, _, hg1, _⟩
  · cases hk1
  · rcases h2.2 with ⟨rfl, _⟩ | ⟨g2, _, _, rfl, _, hg2, _⟩
    · cases hk2
    · simp only [Value.ownBlock, Option.some.injEq] at hk1 hk2
      subst hk1 hk2
      rw [hg1] at hg2
      injection hg2 with hg2
      injection hg2 with _ h3
      exact he h3
theorem grown_keeps {w w' : World} {row : Option Nat} (h : w.grownBy w' row) : Keeps (fun k => row ≠ some k) w w' := (Keeps.refl _ w).grown h fun _ e h => h e

def ltN (x y : ByteArray) : Bool := decide (cmpL (placeB x) (placeB y) < 0)
def bubN (x : ByteArray) : List ByteArray → List ByteArray
  | [] => [x]
  | y :: r => if ltN x y = true then y :: bubN x r else x :: y :: r
def insN (l : List ByteArray) : List ByteArray := l.foldl (fun r x => bubN x r) []
/-- The names in their order. -/
def sortN (l : List ByteArray) : List ByteArray := (insN (l.filter isName)).reverse

def Keyed (l : List El) : Prop := ∀ e ∈ l, e.key = placeB e.name
theorem keyed_nil : Keyed [] := fun _ h => by cases h
theorem none_of {p : El → Prop} : ∀ e ∈ ([] : List El), p e := fun _ h => by cases h
theorem bubR_names (x : El) (hx : x.key = placeB x.name) : ∀ r : List El, Keyed r → (bubR x r).map El.name = bubN x.name (r.map El.name)
  | [], _ => rfl
  | y :: r, h => by
    have hy := h y (by simp)
    have he : ltE x y = ltN x.name y.name := by rw [ltE, ltN, hx, hy]
    rw [bubR, List.map_cons, bubN, he]
    split
    · rw [List.map_cons, bubR_names x hx r fun e he => h e (by simp [he])]
    · rfl
theorem insR_names : ∀ (n : Nat) (l : List El), l.length = n → Keyed l → (insR l).map El.name = insN (l.map El.name) ∧ Keyed (insR l)
  | 0, l, h, _ => by rw [List.eq_nil_of_length_eq_zero h]; exact ⟨rfl, fun _ h => by cases h⟩
  | n + 1, l, h, hk => by
    obtain ⟨a, x, rfl⟩ : ∃ a x, l = a ++ [x] := by
      rcases List.eq_nil_or_concat l with rfl | ⟨a, x, rfl⟩
      · simp at h
      · exact ⟨a, x, by simp⟩
    obtain ⟨h1, h2⟩ := insR_names n a (by simpa using h) fun e he => hk e (by simp [he])
    have hx := hk x (by simp)
    rw [insR_snoc, bubR_names x hx _ h2, h1]
    refine ⟨?_, fun e he => ?_⟩
    · rw [List.map_append, insN, insN, List.foldl_append]; rfl
    · rcases bubR_mem x _ e he with rfl | he
      · exact hx
      · exact h2 e he

theorem rowOf_snoc (l : List El) (e : El) : rowOf (l ++ [e]) = rowOf l ++ [.string e.name, e.pv] := by rw [rowOf_append]; rfl

set_option maxRecDepth 100000 in
set_option maxHeartbeats 8000000 in
theorem Sort_small (sv : Value) (ls : List ByteArray) (w : World) (hsv : Strs w sv ls) (hlen : ls.length ≤ 19) (hpos : 0 < ls.length) (hll : ∀ x ∈ ls, isName x = true)
    (hno : ∀ (A B : List ByteArray) (x y : ByteArray), sortN ls = A ++ x :: y :: B → placeB y ≠ placeB x) :
    Calls Try.prog 34 #[sv] w fun e w' => ∃ v, e = .returned v ∧ Strs w' v (sortN ls) ∧ Ext w w' := by
  obtain ⟨i0, hi, hz0, hz1, hz2⟩ := info_parts infoPlaced
  obtain ⟨i1, hj, hy0, hy1, hy2⟩ := info_parts infoString
  obtain ⟨ao, cap, rfl, hsv2⟩ := hsv.open
  have Hsv := Lib.hid hsv2; clear hsv2 hsv
  have Hll := Lib.hid hll; clear hll
  have Hno := Lib.hid hno; clear hno
  go_enter Try.func34, Try.ntmps34
  go_wp2_with fail
  go_loopw [3, 11] (fun s3 s11 wr => ∃ (k : Nat) (els : List El), s11 = .int .i64 (k : Int) ∧ k ≤ ls.length ∧ els.length = k ∧ els.map El.name = ls.take k ∧ Keyed els ∧
      wr.ownsRow w.heap.size 86 2 s3 els.length (rowOf els) ∧ (∀ e ∈ els, wr.ownsRow w.heap.size 9 1 e.pv e.key.length (e.key.map Value.string) ∧ e.key.length ≤ 255) ∧ Ext w wr)
    (fun _ s11 _ => ls.length - (intOf s11).toNat)
  case atStart => exact ⟨0, [], rfl, Nat.zero_le _, rfl, rfl, keyed_nil, World.ownsRow_nil _ _ _ _, none_of, Ext.refl _⟩
  case round =>
    obtain ⟨k, els, rfl, hk, hel, hnm, hkey, hown, hkeys, hx⟩ := hrel
    have HX := Lib.hid hx; clear hx
    obtain ⟨ao3, cap3, rfl⟩ := ownsRow_slice hown
    by_cases hlt : k < ls.length
    · obtain ⟨b, off, rfl, hc⟩ := Hsv.out k hlt
      replace hc := HX.out.keeps.cell hc trivial
      have hts := take_snoc ls k ⟨#[]⟩ hlt
      have hmem : (ls[k]?.getD ⟨#[]⟩) ∈ ls := by rw [List.getElem?_eq_getElem hlt]; exact List.getElem_mem hlt
      obtain ⟨x, hx⟩ : ∃ x, ls[k]?.getD ⟨#[]⟩ = x := ⟨_, rfl⟩
      rw [hx] at hc hts hmem
      clear hx
      have hname := Hll.out x hmem
      have hx255 := name_le hname
      have CK := Lib.hid fun W => Check_any x W (by unfold maxLen; omega)
      rw [chk_name hname] at CK
      have PL := Lib.hid fun W => place_any x W hx255
      have Hts := Lib.hid hts
      have Hown := Lib.hid hown
      have Hkeys := Lib.hid hkeys
      have Hnm := Lib.hid hnm
      have Hkey := Lib.hid hkey
      have Hel := Lib.hid hel
      have hpl := placeB_len x
      clear hts hmem hname hown hkeys hnm hkey hel
      go_wp2_with (first
        | ((with_reducible refine (CK.out _).mono ?_); rintro e w' ⟨rfl, hx⟩; have HX1 := Lib.hid (Ext.trans (Ext.refl _) hx); clear hx))
      refine (PL.out _).mono ?_
      rintro e w3 ⟨v, rfl, hown2, hx⟩
      obtain ⟨aov, capv, rfl⟩ := ownsRow_slice hown2
      have Hown2 := Lib.hid hown2
      have HX2 := Lib.hid (HX1.out.trans hx)
      have hbase := HX.out.size
      have hbase1 := HX1.out.size
      clear hx hown2
      have hk3 := HX2.out.keeps
      have hown3 := hk3.ownsRow2 Hown.out (fun _ _ => trivial)
      have HX3 := Lib.hid (HX.out.trans HX2.out)
      have hsz : w.heap.size ≤ w3.heap.size := HX3.out.size
      have Hown3 := Lib.hid (hown3.alloc (.cells #[.string x, .slice aov (placeB x).length capv] 86))
      have hsz3 : w.heap.size ≤ (w3.alloc (.cells #[.string x, .slice aov (placeB x).length capv] 86)).heap.size := by simp; omega
      obtain ⟨ne, hne⟩ : ∃ ne, els.length = ne := ⟨_, rfl⟩
      have hne2 : ne ≤ 19 := by have := Hel.out; omega
      rw [hne] at Hown3 ⊢
      have Hne := Lib.hid hne
      obtain ⟨np, hnp⟩ : ∃ np, (placeB x).length = np := ⟨_, rfl⟩
      rw [hnp] at Hown3 hsz3 ⊢
      have Hnp := Lib.hid hnp
      clear hown3 hk3 hne hnp
      go_wp2_with (at_builtin; refine wpList_append_own _ rfl _ _ 84 rfl w.heap.size 86 i0 (.agg #[.string ⟨#[]⟩, .slice none 0 0]) 2 40 Try.underlying84 hi hz0 hz1 hz2 rfl (by decide) _ _ _ rfl Hown3.out ⟨w3.heap.size, 0, none⟩ 1 1 [.string x, .slice aov np capv] rfl rfl ?c1 ?c2 ?c3 ?c4 ?c5 ?_)
      case c1 =>
        intro j u hj
        match j, hj with
        | 0, hj => simp at hj; subst hj; simp [Addr.add]
        | 1, hj => simp at hj; subst hj; simp [Addr.add]
      case c2 => intro u hu; simp at hu; rcases hu with rfl | rfl <;> rfl
      case c3 => unfold maxLen; omega
      case c4 => omega
      case c5 => exact hsz3
      intro v' w4 hown' hgrow _
      obtain ⟨ao', cap', hv1⟩ := ownsRow_slice hown'
      subst hv1
      have hrow := Hown3.out.lt
      have hk4 := grown_keeps hgrow
      have HX4 : Hid (Ext w w4) := Lib.hid ((((HX3.out.keeps.mono (K' := fun k => k < w.heap.size) fun _ _ _ => trivial).alloc _).grown hgrow (fun k e h => by have := (hrow k e).1; omega)).ext fun _ h => h)
      have keep : ∀ (vk : Value) (n : Nat) (zs : List Value), w3.ownsRow w.heap.size 9 1 vk n zs → w4.ownsRow w.heap.size 9 1 vk n zs := fun vk n zs h => by
        have h1 := h.alloc (.cells #[.string x, .slice aov np capv] 86)
        exact hk4.ownsRow2 h1 (rows_apart h1 Hown3.out (by decide))
      have hnew := ownsRow_mono Hown2.out (show w.heap.size ≤ w'.heap.size by omega)
      rw [Hnp.out] at hnew
      have hnew4 := keep _ _ _ hnew
      have hels : ∀ e ∈ els ++ [(⟨x, placeB x, aov, capv⟩ : El)], w4.ownsRow w.heap.size 9 1 e.pv e.key.length (e.key.map Value.string) ∧ e.key.length ≤ 255 := by
        intro e he
        rcases List.mem_append.1 he with he | he
        · obtain ⟨h1, h2⟩ := Hkeys.out e he
          exact ⟨keep _ _ _ (HX2.out.keeps.ownsRow2 h1 fun _ _ => trivial), h2⟩
        · obtain rfl : e = ⟨x, placeB x, aov, capv⟩ := by simpa using he
          refine ⟨?_, by show (placeB x).length ≤ 255; omega⟩
          show w4.ownsRow w.heap.size 9 1 (.slice aov (placeB x).length capv) (placeB x).length ((placeB x).map Value.string)
          rw [Hnp.out]
          exact hnew4
      have Hels := Lib.hid hels
      have Hown' := Lib.hid hown'
      clear hels hnew4 hnew keep hk4 hrow hown' hgrow hsz3 hsz
      go_wp2
      go_roundw
      case rel =>
        refine ⟨k + 1, els ++ [⟨x, placeB x, aov, capv⟩], by simp, by omega, by simp [Hel.out], by rw [List.map_append, Hnm.out, Hts.out]; rfl, ?_, ?_, Hels.out, HX4.out⟩
        · intro e he
          rcases List.mem_append.1 he with he | he
          · exact Hkey.out e he
          · obtain rfl : e = ⟨x, placeB x, aov, capv⟩ := by simpa using he
            rfl
        · rw [rowOf_snoc, El.pv, List.length_append, Hne.out, List.length_singleton]
          show w4.ownsRow w.heap.size 86 2 (.slice ao' (ne + 1) cap') (ne + 1) (rowOf els ++ [.string x, .slice aov (placeB x).length capv])
          rw [Hnp.out]
          exact Hown'.out
      case measure => simp [intOf]; omega
    · obtain rfl : k = ls.length := by omega
      rw [List.take_length] at hnm
      obtain ⟨g, rfl⟩ : ∃ g, ao3 = some ⟨g, 0, none⟩ := by
        rcases hown.2 with ⟨h1, _⟩ | ⟨g, _, _, h1, _⟩
        · simp only [Value.slice.injEq] at h1; omega
        · simp only [Value.slice.injEq] at h1; exact ⟨g, h1.1⟩
      have hg : w.heap.size ≤ g := (hown.lt g rfl).1
      have hrow : Row w.heap.size g cap3 wr els := ⟨hown, fun e he => by
        obtain ⟨h1, h2⟩ := hkeys e he
        refine ⟨strs_of_row h1, fun a ha hag => ?_, h2⟩
        exact rows_apart h1 hown (by decide) g (by rw [El.pv, ha]; show some a.block = some g; rw [hag]) rfl⟩
      have HS := Lib.hid (sorted_small w.heap.size g cap3 els wr hrow (by omega))
      obtain ⟨hn1, hn2⟩ := insR_names _ els rfl hkey
      have hL1 : (insR els).reverse.map El.name = sortN ls := by
        rw [List.map_reverse, hn1, hnm, sortN]
        congr 2
        exact (List.filter_eq_self.2 Hll.out).symm
      have hL2 : (insR els).reverse.length = els.length := by rw [List.length_reverse, insR_len _ els rfl]
      have hL3 : NoTwin (insR els).reverse := by
        intro A B x y h
        have h1 := Hno.out (A.map El.name) (B.map El.name) x.name y.name (by rw [← hL1, h]; simp)
        have hx := hn2 x (by have : x ∈ (insR els).reverse := by rw [h]; simp
                             simpa using this)
        have hy := hn2 y (by have : y ∈ (insR els).reverse := by rw [h]; simp
                             simpa using this)
        rw [hx, hy]
        exact h1
      obtain ⟨L, hL⟩ : ∃ L, (insR els).reverse = L := ⟨_, rfl⟩
      rw [hL] at HS hL1 hL2 hL3
      have HL3 := Lib.hid hL3
      have HL1 := Lib.hid hL1
      obtain ⟨ne, hne⟩ : ∃ ne, els.length = ne := ⟨_, rfl⟩
      rw [hne] at hL2 hel HS ⊢
      rw [← hel] at hlen hpos ⊢
      have HL2 := Lib.hid hL2
      have Hel := Lib.hid hel
      clear hown hkeys hrow hn1 hn2 hL hL1 hL2 hL3 hnm hkey hne hel hlt hk
      go_wp2_with fail
      refine HS.out.mono ?_
      rintro e w2 ⟨⟨u, rfl⟩, hrow2, hk2⟩
      have HCo := Lib.hid (compact_none w.heap.size g cap3 L w2 hrow2 HL3.out (by rw [HL2.out]; omega))
      rw [HL2.out] at HCo
      have hk2' : Keeps (fun k => k < w.heap.size) w w2 := (HX.out.keeps.mono fun _ _ _ => trivial).trans (hk2.mono fun k _ h => by omega)
      have HX2 : Hid (Ext w w2) := Lib.hid (hk2'.ext fun _ h => h)
      clear hrow2 hk2 hk2' HS
      go_wp2_with fail
      refine HCo.out.mono ?_
      rintro e w3 ⟨rfl, hrow3, hx3⟩
      have Hown3 := Lib.hid hrow3.own
      rw [HL2.out] at Hown3
      have HX3 : Hid (Ext w w3) := Lib.hid (HX2.out.trans hx3)
      clear hrow3 hx3 HCo HX2
      go_wp2_with fail
      go_loopw [6, 32] (fun s6 s32 wr => ∃ k : Nat, s32 = .int .i64 (k : Int) ∧ k ≤ ne ∧ wr.ownsRow w.heap.size 9 1 s6 k ((L.take k).map fun e => Value.string e.name) ∧
          wr.ownsRow w.heap.size 86 2 (.slice (some ⟨g, 0, none⟩) ne cap3) ne (rowOf L) ∧ Ext w wr)
        (fun _ s32 _ => ne - (intOf s32).toNat)
      case atStart => exact ⟨0, rfl, Nat.zero_le _, World.ownsRow_nil _ _ _ _, Hown3.out, HX3.out⟩
      case round =>
        obtain ⟨k, rfl, hk, hnames, hown, hx⟩ := hrel
        obtain ⟨ao6, cap6, rfl⟩ := ownsRow_slice hnames
        have HX := Lib.hid hx; clear hx
        by_cases hlt : k < ne
        · obtain ⟨A, e, B, hl, hA, hts⟩ : ∃ A e B, L = A ++ e :: B ∧ A.length = k ∧ L.take (k + 1) = L.take k ++ [e] := by
            have hn' := HL2.out
            refine ⟨L.take k, L[k]'(by omega), L.drop (k + 1), ?_, by rw [List.length_take]; omega, List.take_succ_eq_append_getElem (by omega)⟩
            rw [← List.drop_eq_getElem_cons, List.take_append_drop]
          have c1 := hown.cellAt (k * 2) (by omega)
          have c2 := hown.cellAt (k * 2 + 1) (by omega)
          have hat := rowOf_at A B e
          rw [← hl, hA] at hat
          rw [hat.1] at c1
          rw [hat.2, El.pv] at c2
          have Hts := Lib.hid hts
          have Hnames := Lib.hid hnames
          have Hown := Lib.hid hown
          clear hat hl hA hts hnames hown
          have hrz : w.heap.size ≤ wr.heap.size := HX.out.size
          have Hnm2 := Lib.hid ((Hnames.out.alloc (.cells #[.string e.name, .slice e.ao e.key.length e.cap] 86)).alloc (.cells #[.string e.name] 9))
          have Hown2 := Lib.hid ((Hown.out.alloc (.cells #[.string e.name, .slice e.ao e.key.length e.cap] 86)).alloc (.cells #[.string e.name] 9))
          have hsz2 : w.heap.size ≤ ((wr.alloc (.cells #[.string e.name, .slice e.ao e.key.length e.cap] 86)).alloc (.cells #[.string e.name] 9)).heap.size := by simp; omega
          go_wp2_with (at_builtin; refine wpList_append_own _ rfl _ _ 32 rfl w.heap.size 9 i1 (.string ⟨#[]⟩) 1 16 Try.underlying32 hj hy0 hy1 hy2 rfl (by decide) _ _ _ rfl Hnm2.out ⟨wr.heap.size + 1, 0, none⟩ 1 1 [.string e.name] rfl rfl ?c1 ?c2 ?c3 ?c4 ?c5 ?_)
          case c1 =>
            intro j u hj
            match j, hj with
            | 0, hj => simp at hj; subst hj; simp [Addr.add]
          case c2 => intro u hu; simp at hu; subst hu; rfl
          case c3 => unfold maxLen; omega
          case c4 => omega
          case c5 => exact hsz2
          intro v' w4 hown' hgrow _
          obtain ⟨ao', cap', hv1⟩ := ownsRow_slice hown'
          subst hv1
          have hrow := Hnm2.out.lt
          have hk4 := grown_keeps hgrow
          have HX4 : Hid (Ext w w4) := Lib.hid (((((HX.out.keeps.mono (K' := fun k => k < w.heap.size) fun _ _ _ => trivial).alloc _).alloc _).grown hgrow (fun k e h => by have := (hrow k e).1; omega)).ext fun _ h => h)
          have Hown4 := Lib.hid (hk4.ownsRow2 Hown2.out (rows_apart Hown2.out Hnm2.out (by decide)))
          have Hown' := Lib.hid hown'
          clear hown' hgrow hk4 hrow hsz2 hrz
          go_wp2
          go_roundw
          case rel => exact ⟨k + 1, by simp, by omega, by rw [Hts.out, List.map_append, List.map_take]; exact Hown'.out, Hown4.out, HX4.out⟩
          case measure => simp [intOf]; omega
        · obtain rfl : k = ne := by omega
          have Hnames := Lib.hid hnames
          clear hnames hown
          go_wp2
          go_ret
          refine ⟨_, rfl, ?_, HX.out⟩
          have h1 := Hnames.out
          rw [List.take_of_length_le (by rw [HL2.out]; exact Nat.le_refl _)] at h1
          have h2 : (sortN ls).length = k := by rw [← HL1.out, List.length_map, HL2.out]
          refine strs_of_row (ls := sortN ls) ?_ (base := w.heap.size)
          rw [h2, ← HL1.out, List.map_map]
          exact h1

end Go.Proofs.Ytmmjhdkoccpdjaa
