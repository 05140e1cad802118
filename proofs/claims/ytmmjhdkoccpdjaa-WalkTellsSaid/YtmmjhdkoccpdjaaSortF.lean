/- What walk's Sort does with one up to 19 names. Conditions: these. -/
import Derived.Test.YtmmjhdkoccpdjaaSortE
namespace Go.Proofs.Ytmmjhdkoccpdjaa
open Go Go.RowKit Go.Shelf

def nstep (p : List ByteArray × Option ByteArray) (y : ByteArray) : List ByteArray × Option ByteArray :=
  (match p.2 with | some x => if placeB y = placeB x then p.1 else p.1 ++ [y] | none => p.1 ++ [y], some y)
/-- Of neighbours in one place the first. -/
def compactN (l : List ByteArray) : List ByteArray := (l.foldl nstep ([], none)).1

theorem compactE_names : ∀ (n : Nat) (l : List El), l.length = n → Keyed l → (compactE l).map El.name = compactN (l.map El.name) ∧ (compactP l).2.map El.name = ((l.map El.name).foldl nstep ([], none)).2 ∧ (∀ x, (compactP l).2 = some x → x.key = placeB x.name)
  | 0, l, h, _ => by rw [List.eq_nil_of_length_eq_zero h]; exact ⟨rfl, rfl, fun x h => by cases h⟩
  | n + 1, l, h, hk => by
    obtain ⟨a, y, rfl⟩ : ∃ a x, l = a ++ [x] := by
      rcases List.eq_nil_or_concat l with rfl | ⟨a, x, rfl⟩
      · simp at h
      · exact ⟨a, x, by simp⟩
    obtain ⟨h1, h2, h3⟩ := compactE_names n a (by simpa using h) fun e he => hk e (by simp [he])
    have hy := hk y (by simp)
    rw [compactE] at h1 ⊢
    rw [compactP_snoc, List.map_append, compactN, List.foldl_append]
    rw [compactN] at h1
    obtain ⟨q, hq⟩ : ∃ q, compactP a = q := ⟨_, rfl⟩
    obtain ⟨r, hr⟩ : ∃ r, (a.map El.name).foldl nstep ([], none) = r := ⟨_, rfl⟩
    rw [hq] at h1 h2 h3 ⊢
    rw [hr] at h1 h2 ⊢
    obtain ⟨q1, q2⟩ := q
    obtain ⟨r1, r2⟩ := r
    simp only at h1 h2 h3
    subst h1 h2
    refine ⟨?_, rfl, fun x hx => by simp only [cstep, Option.some.injEq] at hx; subst hx; exact hy⟩
    cases q2 with
    | none => simp [cstep, nstep]
    | some x =>
      have hx := h3 x rfl
      simp only [cstep, nstep, Option.map_some, List.map_cons, List.map_nil, List.foldl_cons, List.foldl_nil, hx, hy]
      split <;> simp
theorem compactE_len : ∀ (n : Nat) (l : List El), l.length = n → (compactE l).length ≤ l.length
  | 0, l, h => by rw [List.eq_nil_of_length_eq_zero h]; exact Nat.le_refl _
  | n + 1, l, h => by
    obtain ⟨a, y, rfl⟩ : ∃ a x, l = a ++ [x] := by
      rcases List.eq_nil_or_concat l with rfl | ⟨a, x, rfl⟩
      · simp at h
      · exact ⟨a, x, by simp⟩
    have ih := compactE_len n a (by simpa using h)
    rw [compactE] at ih ⊢
    rw [compactP_snoc, cstep, List.length_append]
    cases (compactP a).2 with
    | none => simp; omega
    | some x =>
      simp only
      split <;> simp <;> omega

set_option maxRecDepth 100000 in
set_option maxHeartbeats 8000000 in
theorem Sort_19 (sv : Value) (ls : List ByteArray) (w : World) (hsv : Strs w sv ls) (hlen : ls.length ≤ 19) (hpos : 0 < ls.length) (hll : ∀ x ∈ ls, isName x = true) :
    Calls Try.prog 34 #[sv] w fun e w' => ∃ v, e = .returned v ∧ Strs w' v (compactN (sortN ls)) ∧ Ext w w' := by
  obtain ⟨i0, hi, hz0, hz1, hz2⟩ := info_parts infoPlaced
  obtain ⟨i1, hj, hy0, hy1, hy2⟩ := info_parts infoString
  obtain ⟨ao, cap, rfl, hsv2⟩ := hsv.open
  have Hsv := Lib.hid hsv2; clear hsv2 hsv
  have Hll := Lib.hid hll; clear hll
  go_enter Try.func34, Try.ntmps34
  go_wp2_with fail
  go_loopw [3, 11] (fun s3 s11 wr => ∃ (k : Nat) (els : List El), s11 = .int .i64 (k : Int) ∧ k ≤ ls.length ∧ els.length = k ∧ els.map El.name = ls.take k ∧ Keyed els ∧
      wr.ownsRow w.heap.size 86 2 s3 els.length (rowOf els) ∧ (∀ e ∈ els, wr.ownsRow w.heap.size 9 1 e.pv e.key.length (e.key.map Value.string) ∧ e.key.length ≤ 255) ∧ Ext w wr)
    (fun _ s11 _ => ls.length - (intOf s11).toNat)
  case atStart => exact ⟨0, [], rfl, Nat.zero_le _, rfl, rfl, keyed_nil, World.ownsRow_nil _ _ _ _, none_of, Ext.refl _⟩
  case round =>
    obtain ⟨k, els, rfl, hk, hel, hnm, hkey, hown, hkeys, hx⟩ := hrel
    have HX := Lib.hid hx; clear hx
    obtain ⟨ao3, cap3, rfl⟩ := ownsRow_slice hown
    by_cases hlt : k < ls.length
    · obtain ⟨b, off, rfl, hc⟩ := Hsv.out k hlt
      replace hc := HX.out.keeps.cell hc trivial
      have hts := take_snoc ls k ⟨#[]⟩ hlt
      have hmem : (ls[k]?.getD ⟨#[]⟩) ∈ ls := by rw [List.getElem?_eq_getElem hlt]; exact List.getElem_mem hlt
      obtain ⟨x, hx⟩ : ∃ x, ls[k]?.getD ⟨#[]⟩ = x := ⟨_, rfl⟩
      rw [hx] at hc hts hmem
      clear hx
      have hname := Hll.out x hmem
      have hx255 := name_le hname
      have CK := Lib.hid fun W => Check_any x W (by unfold maxLen; omega)
      rw [chk_name hname] at CK
      have PL := Lib.hid fun W => place_any x W hx255
      have Hts := Lib.hid hts
      have Hown := Lib.hid hown
      have Hkeys := Lib.hid hkeys
      have Hnm := Lib.hid hnm
      have Hkey := Lib.hid hkey
      have Hel := Lib.hid hel
      have hpl := placeB_len x
      clear hts hmem hname hown hkeys hnm hkey hel
      go_wp2_with (first
        | ((with_reducible refine (CK.out _).mono ?_); rintro e w' ⟨rfl, hx⟩; have HX1 := Lib.hid (Ext.trans (Ext.refl _) hx); clear hx))
      refine (PL.out _).mono ?_
      rintro e w3 ⟨v, rfl, hown2, hx⟩
      obtain ⟨aov, capv, rfl⟩ := ownsRow_slice hown2
      have Hown2 := Lib.hid hown2
      have HX2 := Lib.hid (HX1.out.trans hx)
      have hbase := HX.out.size
      have hbase1 := HX1.out.size
      clear hx hown2
      have hk3 := HX2.out.keeps
      have hown3 := hk3.ownsRow2 Hown.out (fun _ _ => trivial)
      have HX3 := Lib.hid (HX.out.trans HX2.out)
      have hsz : w.heap.size ≤ w3.heap.size := HX3.out.size
      have Hown3 := Lib.hid (hown3.alloc (.cells #[.string x, .slice aov (placeB x).length capv] 86))
      have hsz3 : w.heap.size ≤ (w3.alloc (.cells #[.string x, .slice aov (placeB x).length capv] 86)).heap.size := by simp; omega
      obtain ⟨ne, hne⟩ : ∃ ne, els.length = ne := ⟨_, rfl⟩
      have hne2 : ne ≤ 19 := by have := Hel.out; omega
      rw [hne] at Hown3 ⊢
      have Hne := Lib.hid hne
      obtain ⟨np, hnp⟩ : ∃ np, (placeB x).length = np := ⟨_, rfl⟩
      rw [hnp] at Hown3 hsz3 ⊢
      have Hnp := Lib.hid hnp
      clear hown3 hk3 hne hnp
      go_wp2_with (at_builtin; refine wpList_append_own _ rfl _ _ 84 rfl w.heap.size 86 i0 (.agg #[.string ⟨#[]⟩, .slice none 0 0]) 2 40 Try.underlying84 hi hz0 hz1 hz2 rfl (by decide) _ _ _ rfl Hown3.out ⟨w3.heap.size, 0, none⟩ 1 1 [.string x, .slice aov np capv] rfl rfl ?c1 ?c2 ?c3 ?c4 ?c5 ?_)
      case c1 =>
        intro j u hj
        match j, hj with
        | 0, hj => simp at hj; subst hj; simp [Addr.add]
        | 1, hj => simp at hj; subst hj; simp [Addr.add]
      case c2 => intro u hu; simp at hu; rcases hu with rfl | rfl <;> rfl
      case c3 => unfold maxLen; omega
      case c4 => omega
      case c5 => exact hsz3
      intro v' w4 hown' hgrow _
      obtain ⟨ao', cap', hv1⟩ := ownsRow_slice hown'
      subst hv1
      have hrow := Hown3.out.lt
      have hk4 := grown_keeps hgrow
      have HX4 : Hid (Ext w w4) := Lib.hid ((((HX3.out.keeps.mono (K' := fun k => k < w.heap.size) fun _ _ _ => trivial).alloc _).grown hgrow (fun k e h => by have := (hrow k e).1; omega)).ext fun _ h => h)
      have keep : ∀ (vk : Value) (n : Nat) (zs : List Value), w3.ownsRow w.heap.size 9 1 vk n zs → w4.ownsRow w.heap.size 9 1 vk n zs := fun vk n zs h => by
        have h1 := h.alloc (.cells #[.string x, .slice aov np capv] 86)
        exact hk4.ownsRow2 h1 (rows_apart h1 Hown3.out (by decide))
      have hnew := ownsRow_mono Hown2.out (show w.heap.size ≤ w'.heap.size by omega)
      rw [Hnp.out] at hnew
      have hnew4 := keep _ _ _ hnew
      have hels : ∀ e ∈ els ++ [(⟨x, placeB x, aov, capv⟩ : El)], w4.ownsRow w.heap.size 9 1 e.pv e.key.length (e.key.map Value.string) ∧ e.key.length ≤ 255 := by
        intro e he
        rcases List.mem_append.1 he with he | he
        · obtain ⟨h1, h2⟩ := Hkeys.out e he
          exact ⟨keep _ _ _ (HX2.out.keeps.ownsRow2 h1 fun _ _ => trivial), h2⟩
        · obtain rfl : e = ⟨x, placeB x, aov, capv⟩ := by simpa using he
          refine ⟨?_, by show (placeB x).length ≤ 255; omega⟩
          show w4.ownsRow w.heap.size 9 1 (.slice aov (placeB x).length capv) (placeB x).length ((placeB x).map Value.string)
          rw [Hnp.out]
          exact hnew4
      have Hels := Lib.hid hels
      have Hown' := Lib.hid hown'
      clear hels hnew4 hnew keep hk4 hrow hown' hgrow hsz3 hsz
      go_wp2
      go_roundw
      case rel =>
        refine ⟨k + 1, els ++ [⟨x, placeB x, aov, capv⟩], by simp, by omega, by simp [Hel.out], by rw [List.map_append, Hnm.out, Hts.out]; rfl, ?_, ?_, Hels.out, HX4.out⟩
        · intro e he
          rcases List.mem_append.1 he with he | he
          · exact Hkey.out e he
          · obtain rfl : e = ⟨x, placeB x, aov, capv⟩ := by simpa using he
            rfl
        · rw [rowOf_snoc, El.pv, List.length_append, Hne.out, List.length_singleton]
          show w4.ownsRow w.heap.size 86 2 (.slice ao' (ne + 1) cap') (ne + 1) (rowOf els ++ [.string x, .slice aov (placeB x).length capv])
          rw [Hnp.out]
          exact Hown'.out
      case measure => simp [intOf]; omega
    · obtain rfl : k = ls.length := by omega
      rw [List.take_length] at hnm
      obtain ⟨g, rfl⟩ : ∃ g, ao3 = some ⟨g, 0, none⟩ := by
        rcases hown.2 with ⟨h1, _⟩ | ⟨g, _, _, h1, _⟩
        · simp only [Value.slice.injEq] at h1; omega
        · simp only [Value.slice.injEq] at h1; exact ⟨g, h1.1⟩
      have hg : w.heap.size ≤ g := (hown.lt g rfl).1
      have hrow : Row w.heap.size g cap3 wr els := ⟨hown, fun e he => by
        obtain ⟨h1, h2⟩ := hkeys e he
        refine ⟨strs_of_row h1, fun a ha hag => ?_, h2⟩
        exact rows_apart h1 hown (by decide) g (by rw [El.pv, ha]; show some a.block = some g; rw [hag]) rfl⟩
      have HS := Lib.hid (sorted_small w.heap.size g cap3 els wr hrow (by omega))
      obtain ⟨hn1, hn2⟩ := insR_names _ els rfl hkey
      have hL1 : (insR els).reverse.map El.name = sortN ls := by
        rw [List.map_reverse, hn1, hnm, sortN]
        congr 2
        exact (List.filter_eq_self.2 Hll.out).symm
      have hL2 : (insR els).reverse.length = els.length := by rw [List.length_reverse, insR_len _ els rfl]
      have hL3 : Keyed (insR els).reverse := fun e he => hn2 e (by simpa using he)
      obtain ⟨L, hL⟩ : ∃ L, (insR els).reverse = L := ⟨_, rfl⟩
      rw [hL] at HS hL1 hL2 hL3
      have HL3 := Lib.hid hL3
      have HL1 := Lib.hid hL1
      obtain ⟨ne, hne⟩ : ∃ ne, els.length = ne := ⟨_, rfl⟩
      rw [hne] at hL2 hel HS ⊢
      rw [← hel] at hlen hpos ⊢
      have HL2 := Lib.hid hL2
      have Hel := Lib.hid hel
      clear hown hkeys hrow hn1 hn2 hL hL1 hL2 hL3 hnm hkey hne hel hlt hk
      go_wp2_with fail
      refine HS.out.mono ?_
      rintro e w2 ⟨⟨u, rfl⟩, hrow2, hk2⟩
      have HCo := Lib.hid (compact_any w.heap.size g cap3 L w2 hrow2 (by rw [HL2.out]; omega))
      rw [HL2.out] at HCo
      have hk2' : Keeps (fun k => k < w.heap.size) w w2 := (HX.out.keeps.mono fun _ _ _ => trivial).trans (hk2.mono fun k _ h => by omega)
      have HX2 : Hid (Ext w w2) := Lib.hid (hk2'.ext fun _ h => h)
      have hLC1 : (compactE L).map El.name = compactN (sortN ls) := by rw [(compactE_names _ L rfl HL3.out).1, HL1.out]
      have hLC2 : (compactE L).length ≤ 19 := by have := compactE_len _ L rfl; rw [HL2.out] at this; omega
      obtain ⟨C, hC⟩ : ∃ C, compactE L = C := ⟨_, rfl⟩
      rw [hC] at HCo hLC1 hLC2
      obtain ⟨nc, hnc⟩ : ∃ nc, C.length = nc := ⟨_, rfl⟩
      rw [hnc] at HCo hLC2
      have HLC1 := Lib.hid hLC1
      have Hnc := Lib.hid hnc
      clear hrow2 hk2 HS hLC1 hC hnc
      go_wp2_with fail
      refine HCo.out.mono ?_
      rintro e w3 ⟨rfl, hrow3, hk3⟩
      have Hown3 := Lib.hid hrow3.own
      rw [Hnc.out] at Hown3
      have HX3 : Hid (Ext w w3) := Lib.hid ((hk2'.trans (hk3.mono fun k _ h => by omega)).ext fun _ h => h)
      clear hrow3 hk3 hk2' HCo HX2
      go_wp2_with fail
      go_loopw [6, 32] (fun s6 s32 wr => ∃ k : Nat, s32 = .int .i64 (k : Int) ∧ k ≤ nc ∧ wr.ownsRow w.heap.size 9 1 s6 k ((C.take k).map fun e => Value.string e.name) ∧
          wr.ownsRow w.heap.size 86 2 (.slice (some ⟨g, 0, none⟩) nc cap3) nc (rowOf C) ∧ Ext w wr)
        (fun _ s32 _ => nc - (intOf s32).toNat)
      case atStart => exact ⟨0, rfl, Nat.zero_le _, World.ownsRow_nil _ _ _ _, Hown3.out, HX3.out⟩
      case round =>
        obtain ⟨k, rfl, hk, hnames, hown, hx⟩ := hrel
        obtain ⟨ao6, cap6, rfl⟩ := ownsRow_slice hnames
        have HX := Lib.hid hx; clear hx
        by_cases hlt : k < nc
        · obtain ⟨A, e, B, hl, hA, hts⟩ : ∃ A e B, C = A ++ e :: B ∧ A.length = k ∧ C.take (k + 1) = C.take k ++ [e] := by
            have hn' := Hnc.out
            refine ⟨C.take k, C[k]'(by omega), C.drop (k + 1), ?_, by rw [List.length_take]; omega, List.take_succ_eq_append_getElem (by omega)⟩
            rw [← List.drop_eq_getElem_cons, List.take_append_drop]
          have c1 := hown.cellAt (k * 2) (by omega)
          have c2 := hown.cellAt (k * 2 + 1) (by omega)
          have hat := rowOf_at A B e
          rw [← hl, hA] at hat
          rw [hat.1] at c1
          rw [hat.2, El.pv] at c2
          have Hts := Lib.hid hts
          have Hnames := Lib.hid hnames
          have Hown := Lib.hid hown
          clear hat hl hA hts hnames hown
          have hrz : w.heap.size ≤ wr.heap.size := HX.out.size
          have Hnm2 := Lib.hid ((Hnames.out.alloc (.cells #[.string e.name, .slice e.ao e.key.length e.cap] 86)).alloc (.cells #[.string e.name] 9))
          have Hown2 := Lib.hid ((Hown.out.alloc (.cells #[.string e.name, .slice e.ao e.key.length e.cap] 86)).alloc (.cells #[.string e.name] 9))
          have hsz2 : w.heap.size ≤ ((wr.alloc (.cells #[.string e.name, .slice e.ao e.key.length e.cap] 86)).alloc (.cells #[.string e.name] 9)).heap.size := by simp; omega
          go_wp2_with (at_builtin; refine wpList_append_own _ rfl _ _ 32 rfl w.heap.size 9 i1 (.string ⟨#[]⟩) 1 16 Try.underlying32 hj hy0 hy1 hy2 rfl (by decide) _ _ _ rfl Hnm2.out ⟨wr.heap.size + 1, 0, none⟩ 1 1 [.string e.name] rfl rfl ?c1 ?c2 ?c3 ?c4 ?c5 ?_)
          case c1 =>
            intro j u hj
            match j, hj with
            | 0, hj => simp at hj; subst hj; simp [Addr.add]
          case c2 => intro u hu; simp at hu; subst hu; rfl
          case c3 => unfold maxLen; omega
          case c4 => omega
          case c5 => exact hsz2
          intro v' w4 hown' hgrow _
          obtain ⟨ao', cap', hv1⟩ := ownsRow_slice hown'
          subst hv1
          have hrow := Hnm2.out.lt
          have hk4 := grown_keeps hgrow
          have HX4 : Hid (Ext w w4) := Lib.hid (((((HX.out.keeps.mono (K' := fun k => k < w.heap.size) fun _ _ _ => trivial).alloc _).alloc _).grown hgrow (fun k e h => by have := (hrow k e).1; omega)).ext fun _ h => h)
          have Hown4 := Lib.hid (hk4.ownsRow2 Hown2.out (rows_apart Hown2.out Hnm2.out (by decide)))
          have Hown' := Lib.hid hown'
          clear hown' hgrow hk4 hrow hsz2 hrz
          go_wp2
          go_roundw
          case rel => exact ⟨k + 1, by simp, by omega, by rw [Hts.out, List.map_append, List.map_take]; exact Hown'.out, Hown4.out, HX4.out⟩
          case measure => simp [intOf]; omega
        · obtain rfl : k = nc := by omega
          have Hnames := Lib.hid hnames
          clear hnames hown
          go_wp2
          go_ret
          refine ⟨_, rfl, ?_, HX.out⟩
          have h1 := Hnames.out
          rw [List.take_of_length_le (by rw [Hnc.out]; exact Nat.le_refl _)] at h1
          have h2 : (compactN (sortN ls)).length = k := by rw [← HLC1.out, List.length_map, Hnc.out]
          refine strs_of_row (ls := compactN (sortN ls)) ?_ (base := w.heap.size)
          rw [h2, ← HLC1.out, List.map_map]
          exact h1

end Go.Proofs.Ytmmjhdkoccpdjaa
