/- What label's Same and Within do. Conditions: strings that Go can hold. -/
import Derived.Test.YtmmjhdkoccpdjaaLabE
import Derived.Sort.CutIn
namespace Go.Proofs.Ytmmjhdkoccpdjaa
open Go Go.RowKit Go.Shelf
attribute [local go_sem] Oper.semAt_some wide_fn wide_depth

def sameB (a b : ByteArray) : Bool := isName a && isName b && ((foldS a).toList == (foldS b).toList)

set_option maxRecDepth 100000 in
set_option maxHeartbeats 2000000 in
theorem Same_any (a b : ByteArray) (w : World) (ha : a.size ≤ maxLen) (hb : b.size ≤ maxLen) :
    Calls Try.prog 36 #[.string a, .string b] w fun e w' => e = .returned (.bool (sameB a b)) ∧ Ext w w' := by
  have HcA : Hid (∀ W, Calls Try.prog 18 #[.string a] W fun e w' => e = .returned (.int .i64 (chk a)) ∧ Ext W w') := Lib.hid fun W => Check_any a W ha
  have HcB : Hid (∀ W, Calls Try.prog 18 #[.string b] W fun e w' => e = .returned (.int .i64 (chk b)) ∧ Ext W w') := Lib.hid fun W => Check_any b W hb
  have HfA : Hid (∀ W, Calls Try.prog 73 #[.string a] W fun e w' => e = .returned (.string (foldS a)) ∧ Ext W w') := Lib.hid fun W => Fold_any a W ha
  have HfB : Hid (∀ W, Calls Try.prog 73 #[.string b] W fun e w' => e = .returned (.string (foldS b)) ∧ Ext W w') := Lib.hid fun W => Fold_any b W hb
  clear ha hb
  go_enter Try.func36, Try.ntmps36
  go_wp2_with fail
  refine (HcA.out _).mono ?_
  rintro e w1 ⟨rfl, h1⟩
  have H1 := Lib.hid h1; clear h1
  cases hn : isName a with
  | false =>
    rw [show chk a = 2 from by simp [chk, hn]]
    have Hn := Lib.hid hn; clear hn
    go_wp2
    go_ret
    exact ⟨by simp [sameB, Hn.out], H1.out⟩
  | true =>
    rw [show chk a = 0 from by simp [chk, hn]]
    have Hn := Lib.hid hn; clear hn
    go_wp2_with fail
    refine (HcB.out _).mono ?_
    rintro e w2 ⟨rfl, h2⟩
    have H2 := Lib.hid h2; clear h2
    cases hm : isName b with
    | false =>
      rw [show chk b = 2 from by simp [chk, hm]]
      have Hm := Lib.hid hm; clear hm
      go_wp2
      go_ret
      exact ⟨by simp [sameB, Hm.out], H1.out.trans H2.out⟩
    | true =>
      rw [show chk b = 0 from by simp [chk, hm]]
      have Hm := Lib.hid hm; clear hm
      go_wp2_with fail
      refine (HfA.out _).mono ?_
      rintro e w3 ⟨rfl, h3⟩
      have H3 := Lib.hid h3; clear h3
      go_wp2_with fail
      refine (HfB.out _).mono ?_
      rintro e w4 ⟨rfl, h4⟩
      have H4 := Lib.hid h4; clear h4
      go_wp2
      go_ret
      exact ⟨by simp [sameB, Hn.out, Hm.out], H1.out.trans (H2.out.trans (H3.out.trans H4.out))⟩

/-- The rest of s from e on is z. -/
def restIs (s z : ByteArray) (e : Nat) : Bool := (s.extract e s.size).toList == z.toList
def withinB (s z : ByteArray) : Bool := isName s && isName z && (((foldS s).toList == (foldS z).toList) || (endsE (foldS s) 0).any (restIs (foldS s) (foldS z)))

set_option maxRecDepth 100000 in
set_option maxHeartbeats 2000000 in
theorem Within_any (s z : ByteArray) (w : World) (hs : s.size ≤ maxLen) (hz : z.size ≤ maxLen) :
    Calls Try.prog 19 #[.string s, .string z] w fun e w' => e = .returned (.bool (withinB s z)) ∧ Ext w w' := by
  have HcA : Hid (∀ W, Calls Try.prog 18 #[.string s] W fun e w' => e = .returned (.int .i64 (chk s)) ∧ Ext W w') := Lib.hid fun W => Check_any s W hs
  have HcB : Hid (∀ W, Calls Try.prog 18 #[.string z] W fun e w' => e = .returned (.int .i64 (chk z)) ∧ Ext W w') := Lib.hid fun W => Check_any z W hz
  have HfA : Hid (∀ W, Calls Try.prog 73 #[.string s] W fun e w' => e = .returned (.string (foldS s)) ∧ Ext W w') := Lib.hid fun W => Fold_any s W hs
  have HfB : Hid (∀ W, Calls Try.prog 73 #[.string z] W fun e w' => e = .returned (.string (foldS z)) ∧ Ext W w') := Lib.hid fun W => Fold_any z W hz
  refine (callsIn_wide (n := 9)).1 ?_
  refine callsIn_of_wp_marks Try.func19 rfl trivial ?_ rfl
  simp only [Try.ntmps19, List.size_toArray, List.length_cons, List.length_nil, Nat.reduceAdd, Nat.reduceSub, Array.replicate_succ, Array.replicate_zero, List.push_toArray, List.append_toArray, List.nil_append, List.cons_append]
  gi_wp2_with fail
  obtain ⟨w0, hw0⟩ : ∃ w0, ((w.alloc (.cells #[.string s] 9)).alloc (.cells #[.string z] 9)).alloc (.cells #[.bool false] 4) = w0 := ⟨_, rfl⟩
  have hN0 : Boxed w0 w.heap.size 9 (.string s) := by rw [← hw0]; exact ((Boxed.new w 9 _).alloc _).alloc _
  have hZ0 : Boxed w0 (w.heap.size + 1) 9 (.string z) := by
    rw [← hw0]; have := (Boxed.new (w.alloc (.cells #[.string s] 9)) 9 (.string z)).alloc (.cells #[.bool false] 4); simpa using this
  have hE0 : Boxed w0 (w.heap.size + 1 + 1) 4 (.bool false) := by
    rw [← hw0]; have := Boxed.new ((w.alloc (.cells #[.string s] 9)).alloc (.cells #[.string z] 9)) 4 (.bool false); simpa using this
  have hX0 : Ext w w0 := by rw [← hw0]; exact (((Ext.refl _).alloc _).alloc _).alloc _
  rw [hw0]
  clear hw0
  refine (callsIn_wide.2 (HcA.out _)).mono ?_
  rintro e w1 ⟨rfl, hx1⟩
  have hX1 : Ext w w1 := hX0.trans hx1
  have hN1 := (Ext.keeps hx1).boxed hN0 trivial
  have hZ1 := (Ext.keeps hx1).boxed hZ0 trivial
  have hE1 := (Ext.keeps hx1).boxed hE0 trivial
  clear hN0 hZ0 hE0 hx1 hX0
  have Hs := Lib.hid hs; clear hs
  have Hz := Lib.hid hz; clear hz
  cases hn : isName s with
  | false =>
    rw [show chk s = 2 from by simp [chk, hn]]
    have Hn := Lib.hid hn; clear hn
    have hcE := hE1.cell
    have hfE := hE1.frozen
    have HX1 := Lib.hid hX1; clear hX1
    have HE1 := Lib.hid hE1; clear hE1
    clear hN1 hZ1
    gi_wp2
    refine ⟨.bool false, ?_, by simp [withinB, Hn.out], ?_⟩
    · simp [results, Try.f19, go_sem, (HE1.out.set (.bool false)).cell]
    · exact ((HX1.out.keeps.mono (K' := fun k => k < w.heap.size) (fun _ _ _ => trivial)).setCell (p := ⟨w.heap.size + 1 + 1, 0, none⟩) (by simp only; omega) _).ext (fun _ h => h)
  | true =>
    rw [show chk s = 0 from by simp [chk, hn]]
    have Hn := Lib.hid hn; clear hn
    have hcN := hN1.cell
    have hcZ := hZ1.cell
    have HX1 := Lib.hid hX1; clear hX1
    have HN1 := Lib.hid hN1; clear hN1
    have HZ1 := Lib.hid hZ1; clear hZ1
    have HE1 := Lib.hid hE1; clear hE1
    gi_wp2_with fail
    refine (callsIn_wide.2 (HcB.out _)).mono ?_
    rintro e w2 ⟨rfl, hx2⟩
    have hX2 : Ext w w2 := HX1.out.trans hx2
    have hN2 := (Ext.keeps hx2).boxed HN1.out trivial
    have hZ2 := (Ext.keeps hx2).boxed HZ1.out trivial
    have hE2 := (Ext.keeps hx2).boxed HE1.out trivial
    clear hx2 hcN hcZ HX1 HN1 HZ1 HE1
    cases hm : isName z with
    | false =>
      rw [show chk z = 2 from by simp [chk, hm]]
      have Hm := Lib.hid hm; clear hm
      have hcE := hE2.cell
      have hfE := hE2.frozen
      have HX2 := Lib.hid hX2; clear hX2
      have HE2 := Lib.hid hE2; clear hE2
      clear hN2 hZ2
      gi_wp2
      refine ⟨.bool false, ?_, by simp [withinB, Hm.out], ?_⟩
      · simp [results, Try.f19, go_sem, (HE2.out.set (.bool false)).cell]
      · exact ((HX2.out.keeps.mono (K' := fun k => k < w.heap.size) (fun _ _ _ => trivial)).setCell (p := ⟨w.heap.size + 1 + 1, 0, none⟩) (by simp only; omega) _).ext (fun _ h => h)
    | true =>
      rw [show chk z = 0 from by simp [chk, hm]]
      have Hm := Lib.hid hm; clear hm
      have hcN := hN2.cell
      have hcZ := hZ2.cell
      have hfN := hN2.frozen
      have hfZ := hZ2.frozen
      have HX2 := Lib.hid hX2; clear hX2
      have HN2 := Lib.hid hN2; clear hN2
      have HZ2 := Lib.hid hZ2; clear hZ2
      have HE2 := Lib.hid hE2; clear hE2
      gi_upto_region 3 with (fail)
      gi_cut [] from 14 (fun wx => Boxed wx w.heap.size 9 (.string (foldS s)) ∧ Boxed wx (w.heap.size + 1) 9 (.string (foldS z)) ∧ Boxed wx (w.heap.size + 1 + 1) 4 (.bool false) ∧ Keeps (fun k => k < w.heap.size) w wx)
      case first =>
        have hmx : Try.prog.follows .mixedOrders = true := by kernel_rfl
        gi_region_with_o (gi_at_call 73; first
          | ((with_reducible refine (callsIn_wide.2 (HfA.out _)).mono ?_); rintro e wa ⟨rfl, ha⟩; have Hka := Lib.hid (Ext.keeps ha); have HN3 := Lib.hid (Hka.out.boxed (t := 9) HN2.out trivial); have HZ3 := Lib.hid (Hka.out.boxed (t := 9) HZ2.out trivial); have HE3 := Lib.hid (Hka.out.boxed (t := 4) HE2.out trivial); have hcZ3 := HZ3.out.cell; clear ha)
          | ((with_reducible refine (callsIn_wide.2 (HfB.out _)).mono ?_); rintro e wb ⟨rfl, hb⟩; have Hkb := Lib.hid (Ext.keeps hb); have HN4 := Lib.hid (Hkb.out.boxed (t := 9) HN3.out trivial); have HZ4 := Lib.hid (Hkb.out.boxed (t := 9) HZ3.out trivial); have HE4 := Lib.hid (Hkb.out.boxed (t := 4) HE3.out trivial); have hcN4 := HN4.out.cell; have hfN4 := HN4.out.frozen; have hcZ4 := HZ4.out.cell; have hfZ4 := HZ4.out.frozen; clear hb))
        all_goals
          gi_wp2
          gi_meet
          case rel =>
            obtain ⟨g1, g2⟩ := boxed_set2 HN4.out HZ4.out (by omega) (.string (foldS s)) (.string (foldS z))
            have g3 : Boxed ((wb.setCell ⟨w.heap.size, 0, none⟩ (.string (foldS s))).setCell ⟨w.heap.size + 1, 0, none⟩ (.string (foldS z))) (w.heap.size + 1 + 1) 4 (.bool false) := (HE4.out.other (B' := w.heap.size) (by omega) _).other (B' := w.heap.size + 1) (by omega) _
            exact ⟨g1, g2, g3, ((HX2.out.keeps.mono (K' := fun k => k < w.heap.size) fun _ _ _ => trivial).trans ((((Keeps.refl _ w2).drew).trans (Hka.out.mono fun _ _ _ => trivial)).trans (Hkb.out.mono fun _ _ _ => trivial))).set2 (by omega) (by omega) _ _⟩
      case rest =>
        obtain ⟨hN, hZ, hE, hk⟩ := hcut
        clear hcN hcZ hfN hfZ HX2 HN2 HZ2 HE2
        have hcN := hN.cell
        have hcZ := hZ.cell
        have hcE := hE.cell
        have hfE := hE.frozen
        have HN := Lib.hid hN; clear hN
        have HZ := Lib.hid hZ; clear hZ
        have HE := Lib.hid hE; clear hE
        have Hk := Lib.hid hk; clear hk
        have hfs : (foldS s).size ≤ maxLen := by rw [size_foldS]; exact Hs.out
        obtain ⟨fs, hfse⟩ : ∃ x, foldS s = x := ⟨_, rfl⟩
        obtain ⟨fz, hfze⟩ : ∃ x, foldS z = x := ⟨_, rfl⟩
        rw [hfse] at hfs HN hcN
        rw [hfze] at HZ hcZ
        have Hfse := Lib.hid hfse; clear hfse
        have Hfze := Lib.hid hfze; clear hfze
        have Hfs := Lib.hid hfs; clear hfs
        cases heq : (fs.toList == fz.toList) with
        | true =>
          gi_wp2
          refine ⟨.bool true, ?_, ?_, ?_⟩
          · simp [results, Try.f19, go_sem, (HE.out.set (.bool true)).cell]
          · rw [withinB, Hn.out, Hm.out, Hfse.out, Hfze.out, heq]; rfl
          · exact (Hk.out.setCell (p := ⟨w.heap.size + 1 + 1, 0, none⟩) (by simp only; omega) _).ext (fun _ h => h)
        | false =>
          gi_wp2_with (gi_at_call 74; refine (callsIn_wide.2 (ends_any _ _)).mono ?_; rintro e w' ⟨rfl, rfl⟩)
          have hEN : Boxed (wc.alloc (.cells #[.string fs] 9)) wc.heap.size 9 (.string fs) := Boxed.new wc 9 _
          have hN3 := HN.out.alloc (.cells #[.string fs] 9)
          have hZ3 := HZ.out.alloc (.cells #[.string fs] 9)
          have hE3 := HE.out.alloc (.cells #[.string fs] 9)
          have hk3 := Hk.out.alloc (.cells #[.string fs] 9)
          have hz3 : (wc.alloc (.cells #[.string fs] 9)).heap.size = wc.heap.size + 1 := by simp
          have hlt := HE.out.lt
          generalize wc.alloc (.cells #[.string fs] 9) = w3 at hEN hN3 hZ3 hE3 hk3 hz3 ⊢
          clear HN HZ HE Hk hcN hcZ hcE hfE
          have Heq := Lib.hid heq; clear heq
          refine wpIn_rangeX rfl wide_room (gf := 113) (lb := #[.pointer (some ⟨wc.heap.size, 0, none⟩)]) rfl trivial (enters_of Try.func113 (by kernel_rfl) rfl)
            (ends1_seq _ _ fs Hfs.out w3 hEN.cell) (Keeps.refl _ _) (fun k h => by rw [hz3]; subst h; omega) (fun _ => rfl)
            (fun _ pre A => pre.any (restIs fs fz) = false ∧ Boxed A w.heap.size 9 (.string fs) ∧ Boxed A (w.heap.size + 1) 9 (.string fz) ∧ Boxed A (w.heap.size + 1 + 1) 4 (.bool false) ∧ Keeps (fun k => k < w.heap.size) w A)
            (fun c _ pre A => c = Code.ret ∧ pre.any (restIs fs fz) = true ∧ Boxed A (w.heap.size + 1 + 1) 4 (.bool true) ∧ Keeps (fun k => k < w.heap.size) w A)
            (fun D pre A A' h k => ⟨h.1, k.boxed h.2.1 (by omega), k.boxed h.2.2.1 (by omega), k.boxed h.2.2.2.1 (by omega), h.2.2.2.2.trans (k.mono fun _ _ h => by omega)⟩)
            (fun c D pre A A' h k => ⟨h.1, h.2.1, k.boxed h.2.2.1 (by omega), h.2.2.2.trans (k.mono fun _ _ h => by omega)⟩)
            (fun D W _ _ h => ⟨rfl, h.boxed hN3 (by omega), h.boxed hZ3 (by omega), h.boxed hE3 (by omega), hk3.trans (h.mono fun _ _ h => by omega)⟩)
            (fun _ x a' _ => a' = { tmps := #[.string s, .string z, .pointer (some ⟨w.heap.size, 0, none⟩), .pointer (some ⟨w.heap.size + 1, 0, none⟩), .pointer (some ⟨w.heap.size + 1 + 1, 0, none⟩), .int .i64 x, .string s, .int .i64 0, .bool false, .bool false, .string z, .int .i64 0, .bool false, .bool false, u14, u15, u16, u17, .string fs, .string fz, .bool false, .string fs, .func (.func 113) #[] #[.pointer (some ⟨wc.heap.size, 0, none⟩)], .int .i64 x, u24, u25, u26, u27, u28], defers := [] })
            (fun _ _ _ _ _ h _ => h) ?assign ?body ?done ?stop
          case assign =>
            intro l D x A K _ hK
            gi_wp2
            exact hK _ _ (Keeps.refl _ _) rfl
          case body =>
            rintro l D pre x rest a' A hx hD hDW ⟨r, hr⟩ ⟨hp, hN, hZ, hE, hk⟩ rfl
            have hxl := (endsE_chain fs pre 0 x rest hx).2
            have hs' := Hfs.out
            unfold maxLen at hs'
            have hcN := hN.cell
            have hcZ := hZ.cell
            have hcE := hE.cell
            have hfE := hE.frozen
            have HE := Lib.hid hE; clear hE
            have HN := Lib.hid hN; clear hN
            have HZ := Lib.hid hZ; clear hZ
            have Hk := Lib.hid hk; clear hk
            have Hx := Lib.hid hx; clear hx
            have Hp := Lib.hid hp; clear hp
            have hmx : Try.prog.follows .mixedOrders = true := by kernel_rfl
            gi_wp2
            refine wpIn_region_tail (Wide.round l) 4 hmx (by kernel_rfl) ?_
            simp only [List.take_succ_cons, List.take_zero, List.drop_succ_cons, List.drop_zero]
            repeat still_step
            refine wpStill_nil ?_
            cases ht : ((fs.extract x fs.size).toList == fz.toList) with
            | true =>
              have Ht : Hid (restIs fs fz x = true) := Lib.hid ht
              gi_wp2
              refine ⟨?_, rfl, by rw [List.any_append]; simp [Ht.out], HE.out.set (.bool true), Hk.out.drew.setCell (p := ⟨w.heap.size + 1 + 1, 0, none⟩) (by simp only; omega) _⟩
              exact ((Keeps.refl _ _).drew).setCell (p := ⟨w.heap.size + 1 + 1, 0, none⟩) (by simp only; omega) _
            | false =>
              have Ht : Hid (restIs fs fz x = false) := Lib.hid ht
              gi_wp2
              exact ⟨(Keeps.refl _ _).drew, by rw [List.any_append, Hp.out]; simp [Ht.out], HN.out, HZ.out, HE.out, Hk.out.drew⟩
          case done =>
            rintro D A hD hDW ⟨hp, hN, hZ, hE, hk⟩ hd
            have hcE := hE.cell
            have hfE := hE.frozen
            have HE := Lib.hid hE; clear hE
            have Hk := Lib.hid hk; clear hk
            have Hd := Lib.hid hd; clear hd
            have Hp := Lib.hid hp; clear hp
            clear hN hZ
            gi_wp2
            have hd2 := ((Keeps.refl (fun k => k = w3.heap.size) A).setCell (p := ⟨w.heap.size + 1 + 1, 0, none⟩) (by simp only; omega) (.bool false)).heap Hd.out rfl
            refine ⟨by simp, .inl ⟨_, _, rfl, run_takeDeferred hd2, ?_⟩⟩
            have hp := fun K (h : ¬ K w3.heap.size) => (Keeps.refl K (A.setCell ⟨w.heap.size + 1 + 1, 0, none⟩ (.bool false))).putObj h (.deferred none)
            have h2' := (hp (fun k => k < w3.heap.size) (by omega)).boxed (HE.out.set (.bool false)) (by omega)
            refine ⟨.bool false, ?_, ?_, ?_⟩
            · simp [results, Try.f19, go_sem, h2'.cell]
            · rw [withinB, Hn.out, Hm.out, Hfse.out, Hfze.out, Heq.out, Hp.out]; rfl
            · exact ((Hk.out.setCell (p := ⟨w.heap.size + 1 + 1, 0, none⟩) (by simp only; omega) _).trans (hp _ (by omega))).ext (fun _ h => h)
          case stop =>
            rintro c D pre x rest A hx hD hDW ⟨rfl, hp, hE, hk⟩ hd
            have hcE := hE.cell
            have HE := Lib.hid hE; clear hE
            have Hk := Lib.hid hk; clear hk
            have Hd := Lib.hid hd; clear hd
            have Hp := Lib.hid hp; clear hp
            have Hx := Lib.hid hx; clear hx
            gi_wp2
            refine ⟨by simp, .inl ⟨_, _, rfl, run_takeDeferred Hd.out, ?_⟩⟩
            have hp := fun K (h : ¬ K w3.heap.size) => (Keeps.refl K A).putObj h (.deferred none)
            have h2' := (hp (fun k => k < w3.heap.size) (by omega)).boxed HE.out (by omega)
            refine ⟨.bool true, ?_, ?_, ?_⟩
            · simp [results, Try.f19, go_sem, h2'.cell]
            · have hany : (endsE fs 0).any (restIs fs fz) = true := by
                rw [Hx.out, show pre ++ x :: rest = (pre ++ [x]) ++ rest from by simp, List.any_append, Hp.out]; rfl
              rw [withinB, Hn.out, Hm.out, Hfse.out, Hfze.out, Heq.out, hany]; rfl
            · exact (Hk.out.trans (hp _ (by omega))).ext (fun _ h => h)

end Go.Proofs.Ytmmjhdkoccpdjaa
