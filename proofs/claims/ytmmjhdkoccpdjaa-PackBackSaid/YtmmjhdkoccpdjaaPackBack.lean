/- The walk of hardtacklaw03.PackBack: it answers true. Conditions: strings and slices that Go can hold. -/
import Derived.Test.YtmmjhdkoccpdjaaMath9
import Derived.Test.YtmmjhdkoccpdjaaAppend
import Derived.Test.YtmmjhdkoccpdjaaArgs
import Derived.Test.YtmmjhdkoccpdjaaRefB
namespace Go.Proofs.Ytmmjhdkoccpdjaa
open Go Go.RowKit Go.Shelf
attribute [local go_sem] Oper.semAt_some wide_fn wide_depth

theorem RowO.at_ {W : World} {ao : Option Addr} {n cap : Nat} {V : Nat → Value} (h : RowO W (.slice ao n cap) n V) (k : Nat) (hk : k < n) : ∃ b off, ao = some ⟨b, off, none⟩ ∧ W.cell? ⟨b, off + k, none⟩ = some (V k) := by
  obtain ⟨o, c2, e, _, _, h⟩ := h
  simp only [Value.slice.injEq, true_and] at e
  obtain ⟨b, off, h1, h2⟩ := h k hk
  exact ⟨b, off, e.1.trans h1, h2⟩
theorem Keeps.ownsRowB {K : Nat → Prop} {w w' : World} (h : Keeps K w w') {base size n : Nat} {e : TypeId} {v : Value} {xs : List Value} (hr : w.ownsRow base e size v n xs) (hp : ∀ j, v.ownBlock = some j → K j) : w'.ownsRow base e size v n xs := by
  refine ⟨hr.1, ?_⟩
  rcases hr.2 with hn | ⟨g, cap, cur, rfl, hb, hgg, rest⟩
  · exact .inl hn
  · exact .inr ⟨g, cap, cur, rfl, hb, h.heap hgg (hp g rfl), rest⟩

set_option maxRecDepth 100000 in
set_option maxHeartbeats 8000000 in
theorem packBack_walk (a : ByteArray) (nv : Value) (ls : List ByteArray) (fv : Value) (fn : Nat) (F : Nat → Bool) (w : World) (ha : a.size ≤ maxLen) (hn : RowO w nv ls.length (fun k => .string (ls[k]?.getD ⟨#[]⟩))) (hls : ∀ x ∈ ls, x.size ≤ maxLen)
    (hf : RowO w fv fn (fun k => .bool (F k))) :
    Calls Try.prog 8 #[.string a, nv, fv] w fun e w' => e = .returned (.bool true) ∧ Ext w w' := by
  have CL := Lib.hid fun W => L3.lives_any W
  have Hn := Lib.hid hn
  have Hf := Lib.hid hf
  have Hls := Lib.hid hls; clear hls
  obtain ⟨ao, cap, rfl, hn1, hn2, hn3⟩ := hn
  obtain ⟨fo, fcap, rfl, hf1, hf2, hf3⟩ := hf
  clear hn3 hf3
  unfold maxLen at ha hn2 hf2
  by_cases h1 : 4096 < a.size
  · go_enter Try.func8, Try.ntmps8
    go_wp2_with fail
    refine (CL.out _).mono ?_
    rintro e w1 ⟨rfl, hx⟩
    have HX := Lib.hid hx; clear hx
    go_wp2
    go_ret
    exact ⟨rfl, HX.out⟩
  · have h1' : decide ((4096 : Int) < a.size) = false := by simp; omega
    by_cases h2 : 60 < ls.length
    · go_enter Try.func8, Try.ntmps8
      go_wp2_with fail
      refine (CL.out _).mono ?_
      rintro e w1 ⟨rfl, hx⟩
      have HX := Lib.hid hx; clear hx
      go_wp2
      go_ret
      exact ⟨rfl, HX.out⟩
    · have h2' : decide ((60 : Int) < ls.length) = false := by simp; omega
      have HG0 := Lib.hid (Good.start a (by omega))
      go_enter Try.func8, Try.ntmps8
      go_wp2_with fail
      refine (CL.out _).mono ?_
      rintro e w1 ⟨rfl, hx⟩
      have HX := Lib.hid hx; clear hx
      have C := Lib.hid (New_any 65536 w1)
      go_wp2_with fail
      refine C.out.mono ?_
      rintro e w2 ⟨rfl, hw, hx⟩
      have hw := hw.mono (G' := fun k => k < w.heap.size) (fun k hk => Nat.lt_of_lt_of_le hk HX.out.size)
      obtain ⟨B, hB⟩ : ∃ B, w1.heap.size + 1 = B := ⟨_, rfl⟩
      rw [hB] at hw ⊢
      have Hw := Lib.hid hw; clear hw hB
      have HX := Lib.hid (HX.out.trans hx); clear hx
      have C := Lib.hid (WRaw_any B _ ⟨[], 65536, false, []⟩ a w2 Hw.out (by decide +kernel) (by omega))
      go_wp2_with fail
      refine C.out.mono ?_
      rintro e w3 ⟨⟨v, rfl⟩, hw, hk⟩
      have HK : Hid (Keeps (fun k => k < w.heap.size) w w3) := Lib.hid ((HX.out.keeps.mono fun _ _ _ => trivial).trans hk); clear hk
      have Hw := Lib.hid hw; clear hw
      obtain ⟨m, hm⟩ : ∃ m, ls.length = m := ⟨_, rfl⟩
      rw [hm] at h2 h2' hn1 Hn ⊢
      have Hm := Lib.hid hm; clear hm
      go_wp2_with fail
      go_loopw [8, 9, 37] (fun mo lv i wr => ∃ (k : Nat) (kp : List ByteArray) (G : Nat → Prop) (q : Wr) (lo : Option Addr) (c : Nat), k ≤ m ∧ kp.length ≤ k ∧ i = .int .i64 k ∧ mo = .int .i64 ((a.size + sumS kp : Nat) : Int) ∧ lv = .slice lo kp.length c ∧
          wr.ownsRow 0 9 1 (.slice lo kp.length c) kp.length (kp.map Value.string) ∧ (∀ j, Value.ownBlock (.slice lo kp.length c) = some j → G j) ∧ (∀ j, Value.ownBlock (.slice lo kp.length c) = some j → w.heap.size ≤ j) ∧ (∀ j, j < w.heap.size → G j) ∧ WrAt wr B G q ∧ Good a kp q ∧ (∀ x ∈ kp, x.size ≤ 255) ∧ Keeps (fun j => j < w.heap.size) w wr)
        (fun _ _ i _ => m - (intOf i).toNat)
      case atStart =>
        exact ⟨0, [], _, _, none, 0, Nat.zero_le _, Nat.le_refl _, rfl, by simp [sumS], rfl, World.ownsRow_nil _ _ _ _, by simp [Value.ownBlock], by simp [Value.ownBlock], fun _ h => h, Hw.out, HG0.out, by simp, HK.out⟩
      case round =>
        obtain ⟨k, kp, G, q, lo, c, hk, hkk, rfl, rfl, rfl, hown, hlo, hlo2, hG, hw, hg, hks, hkeep⟩ := hrel
        by_cases hlt : k < m
        · obtain ⟨b, off, rfl, hc⟩ := (Hn.out.ext (hkeep.ext fun _ h => h)).at_ k hlt
          have hmem : (ls[k]?.getD ⟨#[]⟩) ∈ ls := by
            have hk' : k < ls.length := by rw [Hm.out]; exact hlt
            rw [List.getElem?_eq_getElem hk']; exact List.getElem_mem hk'
          obtain ⟨x, hx⟩ : ∃ x, ls[k]?.getD ⟨#[]⟩ = x := ⟨_, rfl⟩
          rw [hx] at hc hmem
          clear hx
          have hxs := Hls.out x hmem
          have CC := Lib.hid fun W => RCheck_any x W hxs
          have hsum := sumS_le kp hks
          obtain ⟨mm, hmm⟩ : ∃ mm, a.size + sumS kp = mm := ⟨_, rfl⟩
          rw [hmm]
          have hmm2 : mm ≤ 20000 := by omega
          have Hmm := Lib.hid hmm; clear hmm hsum
          cases hnm : isName x with
          | false =>
            rw [chk_none hnm] at CC
            clear hnm
            have HP := Lib.hid (And.intro hown (And.intro hlo (And.intro hlo2 (And.intro hG (And.intro hw (And.intro hg (And.intro hks hkeep)))))))
            clear hown hlo hlo2 hG hw hg hks hkeep
            go_wp2_with fail
            refine (CC.out _).mono ?_
            rintro e w5 ⟨rfl, hx5⟩
            have HX5 := Lib.hid hx5; clear hx5
            go_wp2
            go_roundw
            case rel =>
              obtain ⟨p1, p2, p3, p4, p5, p6, p7, p8⟩ := HP.out
              exact ⟨k + 1, kp, G, q, lo, c, by omega, by omega, by simp, by rw [Hmm.out], rfl, HX5.out.keeps.ownsRowB p1 (fun _ _ => trivial), p2, p3, p4, p5.ext HX5.out, p6, p7, p8.trans (HX5.out.keeps.mono fun _ _ _ => trivial)⟩
            case measure => simp [intOf]; omega
          | true =>
            rw [chk_name hnm] at CC
            have hx255 := name_le hnm
            obtain ⟨xl, hxr⟩ := rep_of_name hnm
            have HGood := Lib.hid fun pt => hg.name (by omega) (by omega) hks hxr pt
            have hqok := hg.ok
            have Hg := Lib.hid hg; clear hg hxr hnm
            have Hqok := Lib.hid hqok; clear hqok
            have Hks := Lib.hid hks; clear hks
            have HG := Lib.hid hG; clear hG
            have Hx255 := Lib.hid hx255; clear hx255
            have Hx8 : x.size ≤ 255 := Hx255.out
            go_wp2_with fail
            refine (CC.out _).mono ?_
            rintro e w5 ⟨rfl, hx5⟩
            have hown5 := hx5.keeps.ownsRowB hown (fun _ _ => trivial)
            have hw5 := hw.ext hx5
            have hk5 := hkeep.trans (hx5.keeps.mono fun _ _ _ => trivial)
            obtain ⟨v', w7, hap, hown7, hgr, hwh⟩ := append_string w5 (.slice lo kp.length c) kp.length _ hown5 x (by omega)
            obtain ⟨lo', c', rfl⟩ := ownsRow_slice hown7
            have hk57 : ∀ K : Nat → Prop, (∀ j, K j → Value.ownBlock (.slice lo kp.length c) ≠ some j) → Keeps K w5 w7 := fun K hK => ((Keeps.refl K w5).alloc _).grown hgr (fun j e hj => hK j hj e)
            have HW7 := Lib.hid (hw5.grown (hk57 (fun j => Value.ownBlock (.slice lo kp.length c) ≠ some j) (fun _ h => h)) (fun j hj e => hj (hlo j e)))
            have HK7 := Lib.hid (hk5.trans (hk57 (fun j => j < w.heap.size) (fun j hj e => by have := hlo2 j e; omega)))
            have Hown' := Lib.hid hown7
            have Hlo' : Hid ((∀ j, Value.ownBlock (.slice lo' (kp.length + 1) c') = some j → (G j ∨ (w5.heap.size ≤ j ∧ j < w7.heap.size))) ∧ ∀ j, Value.ownBlock (.slice lo' (kp.length + 1) c') = some j → w.heap.size ≤ j) := Lib.hid (by
              refine ⟨fun j hj => ?_, fun j hj => ?_⟩
              · rcases hwh with hwh | hwh
                · exact .inl (hlo j (hwh ▸ hj))
                · exact .inr ⟨hwh j hj, (hown7.lt j hj).2⟩
              · rcases hwh with hwh | hwh
                · exact hlo2 j (hwh ▸ hj)
                · exact Nat.le_trans hk5.size (hwh j hj))
            have Hap := Lib.hid hap
            clear hap hown hlo hlo2 hw hkeep hx5 hown5 hw5 hk5 hown7 hgr hwh hk57 hc
            obtain ⟨kn, hkn⟩ : ∃ kn, kp.length = kn := ⟨_, rfl⟩
            rw [hkn] at Hap Hown' Hlo' hkk
            rw [hkn]
            have Hkn := Lib.hid hkn; clear hkn
            by_cases hfl : k < fn
            · obtain ⟨fb, foff, rfl, hfc⟩ := (Hf.out.ext (HK7.out.ext fun _ h => h)).at_ k hfl
              cases hF : F k with
              | true =>
                simp only [hF] at hfc
                have CNm := Lib.hid fun W (h : WrAt W B (fun j => G j ∨ (w5.heap.size ≤ j ∧ j < w7.heap.size)) q) => WFull_any B _ q x W h Hqok.out hxs
                clear hF
                go_wp2_with (at_builtin; refine wpList_append_run rfl _ _ 32 32 rfl rfl rfl Hap.out ?_)
                go_wp2_with fail
                refine (CNm.out w7 HW7.out).mono ?_
                rintro e w8 ⟨⟨v, rfl⟩, hw8, hk8⟩
                have HW8 := Lib.hid hw8; clear hw8
                have HK8 := Lib.hid hk8; clear hk8 CNm
                go_wp2
                go_roundw
                case rel =>
                  have hl1 : (kp ++ [x]).length = kn + 1 := by rw [List.length_append, List.length_singleton, Hkn.out]
                  refine ⟨k + 1, kp ++ [x], _, nameW q x false, lo', c', by omega, by rw [hl1]; omega, by simp, by rw [sumS_snoc, ← Hmm.out]; simp; omega, by rw [hl1], ?_, ?_, ?_, ?_, HW8.out, HGood.out false, ?_, ?_⟩
                  · rw [hl1, List.map_append]
                    exact HK8.out.ownsRowB Hown'.out Hlo'.out.1
                  · rw [hl1]; exact Hlo'.out.1
                  · rw [hl1]; exact Hlo'.out.2
                  · exact fun j hj => .inl (HG.out j hj)
                  · intro y hy
                    rcases List.mem_append.1 hy with hy | hy
                    · exact Hks.out y hy
                    · obtain rfl : y = x := by simpa using hy
                      exact Hx255.out
                  · exact HK7.out.trans (HK8.out.mono fun j _ hj => .inl (HG.out j hj))
                case measure => simp [intOf]; omega
              | false =>
                simp only [hF] at hfc
                have CNm := Lib.hid fun W (h : WrAt W B (fun j => G j ∨ (w5.heap.size ≤ j ∧ j < w7.heap.size)) q) => WNamed_any B _ q x W h Hqok.out hxs
                clear hF
                go_wp2_with (at_builtin; refine wpList_append_run rfl _ _ 32 32 rfl rfl rfl Hap.out ?_)
                go_wp2_with fail
                refine (CNm.out w7 HW7.out).mono ?_
                rintro e w8 ⟨⟨v, rfl⟩, hw8, hk8⟩
                have HW8 := Lib.hid hw8; clear hw8
                have HK8 := Lib.hid hk8; clear hk8 CNm
                go_wp2
                go_roundw
                case rel =>
                  have hl1 : (kp ++ [x]).length = kn + 1 := by rw [List.length_append, List.length_singleton, Hkn.out]
                  refine ⟨k + 1, kp ++ [x], _, nameW q x true, lo', c', by omega, by rw [hl1]; omega, by simp, by rw [sumS_snoc, ← Hmm.out]; simp; omega, by rw [hl1], ?_, ?_, ?_, ?_, HW8.out, HGood.out true, ?_, ?_⟩
                  · rw [hl1, List.map_append]
                    exact HK8.out.ownsRowB Hown'.out Hlo'.out.1
                  · rw [hl1]; exact Hlo'.out.1
                  · rw [hl1]; exact Hlo'.out.2
                  · exact fun j hj => .inl (HG.out j hj)
                  · intro y hy
                    rcases List.mem_append.1 hy with hy | hy
                    · exact Hks.out y hy
                    · obtain rfl : y = x := by simpa using hy
                      exact Hx255.out
                  · exact HK7.out.trans (HK8.out.mono fun j _ hj => .inl (HG.out j hj))
                case measure => simp [intOf]; omega
            · have hfl' : decide ((k : Int) < (fn : Int)) = false := by simp; omega
              have CNm := Lib.hid fun W (h : WrAt W B (fun j => G j ∨ (w5.heap.size ≤ j ∧ j < w7.heap.size)) q) => WNamed_any B _ q x W h Hqok.out hxs
              go_wp2_with (at_builtin; refine wpList_append_run rfl _ _ 32 32 rfl rfl rfl Hap.out ?_)
              go_wp2_with fail
              refine (CNm.out w7 HW7.out).mono ?_
              rintro e w8 ⟨⟨v, rfl⟩, hw8, hk8⟩
              have HW8 := Lib.hid hw8; clear hw8
              have HK8 := Lib.hid hk8; clear hk8 CNm
              go_wp2
              go_roundw
              case rel =>
                have hl1 : (kp ++ [x]).length = kn + 1 := by rw [List.length_append, List.length_singleton, Hkn.out]
                refine ⟨k + 1, kp ++ [x], _, nameW q x true, lo', c', by omega, by rw [hl1]; omega, by simp, by rw [sumS_snoc, ← Hmm.out]; simp; omega, by rw [hl1], ?_, ?_, ?_, ?_, HW8.out, HGood.out true, ?_, ?_⟩
                · rw [hl1, List.map_append]
                  exact HK8.out.ownsRowB Hown'.out Hlo'.out.1
                · rw [hl1]; exact Hlo'.out.1
                · rw [hl1]; exact Hlo'.out.2
                · exact fun j hj => .inl (HG.out j hj)
                · intro y hy
                  rcases List.mem_append.1 hy with hy | hy
                  · exact Hks.out y hy
                  · obtain rfl : y = x := by simpa using hy
                    exact Hx255.out
                · exact HK7.out.trans (HK8.out.mono fun j _ hj => .inl (HG.out j hj))
              case measure => simp [intOf]; omega
        · obtain rfl : k = m := by omega
          have hout : outR q = (⟨q.bytes.toArray⟩, 0) := by rw [outR, hg.full]; rfl
          obtain ⟨s, hs⟩ : ∃ s : ByteArray, (⟨q.bytes.toArray⟩ : ByteArray) = s := ⟨_, rfl⟩
          have hbs : bl s = q.bytes := by rw [← hs, bl_mk]
          rw [hs] at hout
          have C := Lib.hid (Out_any B G q wr hw)
          rw [hout] at C
          have hsum := sumS_le kp hks
          have hsz : s.size = q.bytes.length := by rw [← hbs, bl_size]
          have hlen := hg.len
          have hhl := hg.hlen
          have hsl : s.size ≤ 20000 := by omega
          have has : a.size ≤ s.size := by omega
          have hle : ¬ (((a.size + sumS kp : Nat) : Int) < s.size) := by omega
          obtain ⟨mm, hmm⟩ : ∃ mm, a.size + sumS kp = mm := ⟨_, rfl⟩
          rw [hmm] at hle ⊢
          have hle2 : decide (mm < s.size) = false := by simp; omega
          have hok0 : (⟨s, 0, false⟩ : Rd).ok := ⟨Nat.zero_le _, by show s.size ≤ _; omega⟩
          have hraw : rawR ⟨s, 0, false⟩ (a.size : Int) = (a, ⟨s, a.size, false⟩) := by
            rw [rawR, if_neg (by show ¬ ((a.size : Int) < 0 ∨ ((s.size - 0 : Nat) : Int) < a.size); omega)]
            show (s.extract 0 (0 + ((a.size : Int)).toNat), (⟨s, 0 + ((a.size : Int)).toNat, false⟩ : Rd)) = _
            rw [Int.toNat_natCast, Nat.zero_add]
            have : s.extract 0 a.size = a := bl_inj (by rw [bl_extract, List.drop_zero, hbs, hg.head])
            rw [this]
          have htn : TellsN (bl s) a.size kp (bl s).length := by rw [hbs]; exact hg.tells
          have Htn := Lib.hid htn; clear htn
          have Hraw := Lib.hid hraw; clear hraw
          have Hok0 := Lib.hid hok0; clear hok0
          have Hstr := Lib.hid (strs_of_row hown)
          have Hown := Lib.hid hown
          have Hkeep := Lib.hid hkeep
          clear hout hs hbs hsum hsz hlen hmm hown hlo hlo2 hG hw hg hkeep
          have Hks := Lib.hid hks; clear hks
          obtain ⟨kn, hkn⟩ : ∃ kn, kp.length = kn := ⟨_, rfl⟩
          rw [hkn] at Hstr Hown hkk
          rw [hkn]
          have Hkn := Lib.hid hkn; clear hkn
          go_wp2_with fail
          refine C.out.mono ?_
          rintro e wr' ⟨rfl, rfl⟩
          have C := Lib.hid (Open_any s wr)
          go_wp2_with fail
          refine C.out.mono ?_
          rintro e w8 ⟨rfl, hr, hx⟩
          obtain ⟨R, hR⟩ : ∃ R, wr.heap.size = R := ⟨_, rfl⟩
          rw [hR] at hr ⊢
          have hRw : w.heap.size ≤ R := by rw [← hR]; exact Hkeep.out.size
          have hRow : ∀ j, Value.ownBlock (.slice lo kn c) = some j → j ≠ R := fun j hj => by have := (Hown.out.lt j hj).2; omega
          have HRow := Lib.hid hRow; clear hRow hR
          have Hr := Lib.hid hr; clear hr
          have HK := Lib.hid (Hkeep.out.trans (hx.keeps.mono fun _ _ _ => trivial))
          have Hown := Lib.hid (hx.keeps.ownsRowB Hown.out fun _ _ => trivial); clear hx
          have C := Lib.hid (Raw_any R ⟨s, 0, false⟩ a.size w8 Hr.out Hok0.out (by omega))
          rw [Hraw.out] at C
          go_wp2_with fail
          refine C.out.mono ?_
          rintro e w9 ⟨rfl, hr, hk9, _⟩
          have Hr := Lib.hid hr; clear hr
          have HK := Lib.hid (HK.out.trans (hk9.mono fun j _ hj => by omega))
          have Hown := Lib.hid (hk9.ownsRowB Hown.out HRow.out); clear hk9
          go_wp2_with fail
          go_loopw [99] (fun i wz => ∃ (j p : Nat), j ≤ kn ∧ i = .int .i64 j ∧ p ≤ s.size ∧ RdAt wz R ⟨s, p, false⟩ ∧ TellsN (bl s) p (kp.drop j) (bl s).length ∧ Keeps (fun k => k ≠ R) w9 wz)
            (fun i _ => kn - (intOf i).toNat)
          case atStart => exact ⟨0, a.size, Nat.zero_le _, rfl, has, Hr.out, Htn.out, Keeps.refl _ _⟩
          case round =>
            obtain ⟨j, p, hj, rfl, hp, hr, ht, hkz⟩ := hrel
            have hokp : (⟨s, p, false⟩ : Rd).ok := ⟨hp, by show s.size ≤ _; omega⟩
            have Hokp := Lib.hid hokp; clear hokp
            by_cases hjl : j < kn
            · have hjl' : j < kp.length := by rw [Hkn.out]; exact hjl
              rw [List.drop_eq_getElem_cons hjl'] at ht
              obtain ⟨xl, e', hxr, hxt, htr⟩ := ht
              obtain ⟨x, hx⟩ : ∃ x, kp[j] = x := ⟨_, rfl⟩
              have hrow := hkz.ownsRowB Hown.out HRow.out
              have hst := strs_of_row (ls := kp) (by rw [Hkn.out]; exact hrow)
              rw [hx] at hxr
              obtain ⟨ao2, cap2, e1, e2⟩ := hst.open
              obtain ⟨b, off, e3, e4⟩ := e2 j hjl'
              simp only [Value.slice.injEq] at e1
              obtain rfl : lo = some ⟨b, off, none⟩ := e1.1.trans e3
              rw [List.getElem?_eq_getElem hjl', Option.getD_some, hx] at e4
              have C := Lib.hid (Name_any R ⟨s, p, false⟩ wr hr Hokp.out)
              rw [nameR_tells hxr hxt] at C
              have hel := hxt.le
              rw [bl_size] at hel
              have Htr := Lib.hid htr; clear htr
              have Hkz := Lib.hid hkz; clear hkz
              clear hrow hst e1 e2 e3 hxr hxt hx hr
              go_wp2_with fail
              refine C.out.mono ?_
              rintro e wy ⟨rfl, hr, hky⟩
              have HP := Lib.hid (And.intro hr hky); clear hr hky
              have hb : (x.toList != x.toList) = false := by simp
              go_wp2
              go_roundw
              case rel => exact ⟨j + 1, e', by omega, by simp, hel, HP.out.1, Htr.out, Hkz.out.trans HP.out.2⟩
              case measure => simp [intOf]; omega
            · obtain rfl : j = kn := by omega
              have hpe : p = s.size := by
                rw [List.drop_eq_nil_of_le (by rw [Hkn.out]; exact Nat.le_refl _)] at ht
                exact ht
              subst hpe
              have C1 := Lib.hid (Bad_any R ⟨s, s.size, false⟩ wr hr)
              have C2 := Lib.hid (Left_any R ⟨s, s.size, false⟩ wr hr Hokp.out)
              have hl0 : (⟨s, s.size, false⟩ : Rd).left = 0 := Nat.sub_self _
              rw [hl0] at C2
              have HKz := Lib.hid (HK.out.trans (hkz.mono fun j _ hj => by omega))
              clear hr ht hkz hl0
              go_wp2_with fail
              refine C1.out.mono ?_
              rintro e wr' ⟨rfl, rfl⟩
              go_wp2_with fail
              refine C2.out.mono ?_
              rintro e wr' ⟨rfl, rfl⟩
              go_wp2
              go_ret
              exact ⟨rfl, HKz.out.drew.ext fun _ h => h⟩

end Go.Proofs.Ytmmjhdkoccpdjaa
