/- The walk of hardtacktop.TopData: it answers true. Conditions: slices and strings that Go can hold. -/
import Derived.Test.YteoelhhkdfmaiaaTopB
import Derived.Deep.CutBlock
import Derived.Deep.DeepCutAuto
import Derived.StillTailTactics
import Derived.Deep.RegionHeld3
namespace Go.Proofs.Yteoelhhkdfmaiaa
open Go Go.RowKit Go.Shelf
attribute [local go_sem] Oper.semAt_some wide_fn wide_depth

theorem RowO.cellAt {W : World} {ao : Option Addr} {n cap : Nat} {V : Nat → Value} (h : RowO W (.slice ao n cap) n V) (k : Nat) (hk : k < n) : ∃ b off, ao = some ⟨b, off, none⟩ ∧ W.cell? ⟨b, off + k, none⟩ = some (V k) := by
  obtain ⟨o, c2, e, _, _, h⟩ := h
  simp only [Value.slice.injEq, true_and] at e
  obtain ⟨b, off, h1, h2⟩ := h k hk
  exact ⟨b, off, e.1.trans h1, h2⟩
def placesV (K : List (Nat × Nat)) : List Value := K.map fun p => .int .i64 (p.1 : Int)
def numsV (K : List (Nat × Nat)) : List Value := K.map fun p => .int .i64 (p.2 : Int)

theorem row_cell {W : World} {lo : Option Addr} {n c : Nat} {ty : TypeId} {xs : List Value} (h : W.ownsRow 0 ty 1 (.slice lo n c) n xs) (j : Nat) (u : Value) (hj : xs[j]? = some u) : ∃ g, lo = some ⟨g, 0, none⟩ ∧ W.cell? ⟨g, j, none⟩ = some u := by
  obtain ⟨hl, hr⟩ := id h
  rcases hr with ⟨e, h0⟩ | ⟨g, cap, cur, e, _⟩
  · subst h0
    have : xs = [] := List.eq_nil_of_length_eq_zero (by simpa using hl)
    rw [this] at hj; simp at hj
  · simp only [Value.slice.injEq, true_and] at e
    obtain ⟨rfl, rfl⟩ := e
    refine ⟨g, rfl, ?_⟩
    have := h.cells (g := g) rfl j u hj
    have h2 : (⟨g, 0, none⟩ : Addr).add j = ⟨g, j, none⟩ := by unfold Addr.add; split <;> simp_all
    rw [h2] at this
    exact this

theorem namesI_length : ∀ l : List It, (namesI l).length ≤ l.length
  | [] => Nat.le_refl _
  | .name n :: r => by have := namesI_length r; simp only [namesI, List.length_cons]; omega
  | .num _ _ :: r => by have := namesI_length r; simp only [namesI, List.length_cons]; omega
  | .raw _ :: r => by have := namesI_length r; simp only [namesI, List.length_cons]; omega
theorem readPcs_length : ∀ (ps : List Pc) (r : Rd), (readPcs ps r).1.length = ps.length
  | [], _ => rfl
  | p :: ps, r => by rw [readPcs, List.length_cons, List.length_cons, readPcs_length ps]
theorem pieces_length (t : Int) : (pieces t).length ≤ 15 := by
  unfold pieces formR
  repeat' split
  all_goals simp_all
theorem namesD_length (t : Int) (d : ByteArray) : (namesD t d).length ≤ 15 := by
  unfold namesD
  split
  · have h1 := namesI_length (itsOf t d)
    have h2 := readPcs_length (pieces t) ⟨d, 0, false⟩
    have h3 := pieces_length t
    rw [show (readPcs (pieces t) ⟨d, 0, false⟩).1 = itsOf t d from rfl] at h2
    omega
  · exact Nat.zero_le _

set_option maxRecDepth 100000 in
set_option maxHeartbeats 8000000 in
theorem topData_walk (tv : Value) (tn : Nat) (T : Nat → Int) (dv : Value) (ls : List ByteArray) (w : World) (ht : RowO w tv tn (fun k => .int .u16 (T k))) (hd : RowO w dv ls.length (fun k => .string (ls[k]?.getD ⟨#[]⟩))) (hls : ∀ x ∈ ls, x.size ≤ maxLen) :
    Calls Try.prog 6 #[tv, dv] w fun e w' => e = .returned (.bool true) ∧ Ext w w' := by
  have CL := Lib.hid fun W => begins2_any W
  have Ht := Lib.hid ht
  have Hd := Lib.hid hd
  have Hls := Lib.hid hls; clear hls
  obtain ⟨tao, tcap, rfl, ht1, ht2, ht3⟩ := ht
  obtain ⟨ao, cap, rfl, hd1, hd2, hd3⟩ := hd
  clear ht3 hd3
  unfold maxLen at ht2 hd2
  obtain ⟨m, hm⟩ : ∃ m, ls.length = m := ⟨_, rfl⟩
  rw [hm] at hd1 Hd ⊢
  by_cases h1 : 20 < tn
  · go_enter Try.func6, Try.ntmps6
    go_wp2_with fail
    refine (CL.out _).mono ?_
    rintro e w1 ⟨rfl, hx⟩
    have HX := Lib.hid hx; clear hx
    go_wp2
    go_ret
    exact ⟨rfl, HX.out⟩
  by_cases h2 : 20 < m
  · have h1' : tn ≤ 20 := by omega
    go_enter Try.func6, Try.ntmps6
    go_wp2_with fail
    refine (CL.out _).mono ?_
    rintro e w1 ⟨rfl, hx⟩
    have HX := Lib.hid hx; clear hx
    go_wp2
    go_ret
    exact ⟨rfl, HX.out⟩
  obtain ⟨D, hD⟩ : ∃ D : Nat → ByteArray, (fun k => ls[k]?.getD ⟨#[]⟩) = D := ⟨_, rfl⟩
  have hDl : ∀ k, k < m → (D k).size ≤ maxLen := fun k hk => by
    rw [← hD]
    have hk' : k < ls.length := by omega
    show (ls[k]?.getD ⟨#[]⟩).size ≤ maxLen
    rw [List.getElem?_eq_getElem hk']
    exact Hls.out _ (List.getElem_mem hk')
  have Hd2 : Hid (RowO w (.slice ao m cap) m (fun k => .string (D k))) := Lib.hid (by rw [← hD]; exact Hd.out)
  have HDl := Lib.hid hDl
  have h1' : tn ≤ 20 := by omega
  have h2' : m ≤ 20 := by omega
  clear hDl hD Hd Hls hm ls
  go_enter Try.func6, Try.ntmps6
  go_wp2_with fail
  refine (CL.out _).mono ?_
  rintro e w1 ⟨rfl, hx⟩
  have HX := Lib.hid hx; clear hx
  go_wp2_with fail
  refine (New_any 65536 w1).mono ?_
  rintro e w2 ⟨rfl, hw, hx⟩
  have hw := hw.mono (G' := fun k => k < w.heap.size) (fun k hk => Nat.lt_of_lt_of_le hk HX.out.size)
  obtain ⟨B, hB⟩ : ∃ B, w1.heap.size + 1 = B := ⟨_, rfl⟩
  rw [hB] at hw ⊢
  have HR : Hid (TwoRows w w2 B (fun k => k < w.heap.size) bigW (.slice none 0 0) (.slice none 0 0) 0 [] []) := Lib.hid
    ⟨hw, World.ownsRow_nil _ _ _ _, World.ownsRow_nil _ _ _ _, fun j hj => by simp [Value.ownBlock] at hj, fun j hj => by simp [Value.ownBlock] at hj, fun j hj => by simp [Value.ownBlock] at hj, fun _ h => h, (HX.out.trans hx).keeps.mono fun _ _ _ => trivial⟩
  clear hw hB hx HX
  go_upto_block 0 with fail
  go_cut [6, 7, 8, 9, 10] from 36 to 86 (fun a6 a7 _ _ _ wx => ∃ (q : Wr) (K : List (Nat × Nat)) (G : Nat → Prop) (lo lo2 : Option Addr) (c c2 : Nat), a6 = .slice lo K.length c ∧ a7 = .slice lo2 K.length c2 ∧ Kept T D q K ∧ K.length ≤ 20 ∧ (∀ p ∈ K, p.2 < tn ∧ p.2 < m ∧ (D p.2).size ≤ 4096) ∧
      TwoRows w wx B G q (.slice lo K.length c) (.slice lo2 K.length c2) K.length (placesV K) (numsV K))
  case first =>
    go_wp2_with fail
    go_loopw [6, 7, 36] (fun a6 a7 i wr => ∃ (k : Nat) (q : Wr) (K : List (Nat × Nat)) (G : Nat → Prop) (lo lo2 : Option Addr) (c c2 : Nat), i = .int .i64 k ∧ k ≤ m ∧ K.length ≤ k ∧ a6 = .slice lo K.length c ∧ a7 = .slice lo2 K.length c2 ∧ Kept T D q K ∧ (∀ p ∈ K, p.2 < tn ∧ p.2 < m ∧ (D p.2).size ≤ 4096) ∧
        TwoRows w wr B G q (.slice lo K.length c) (.slice lo2 K.length c2) K.length (placesV K) (numsV K))
      (fun _ _ i _ => m - (intOf i).toNat)
    case atStart => exact ⟨0, bigW, [], _, none, none, 0, 0, rfl, Nat.zero_le _, Nat.le_refl _, rfl, rfl, Kept.start T D, (fun p hp => by cases hp), HR.out⟩
    case round =>
      obtain ⟨k, q, K, G, lo, lo2, c, c2, rfl, hk, hKk, rfl, rfl, hkept, hidx, hrows⟩ := hrel
      have HP := Lib.hid (show ∃ (q : Wr) (K' : List (Nat × Nat)) (G : Nat → Prop) (lo' lo2' : Option Addr) (c' c2' : Nat), Value.slice lo K.length c = .slice lo' K'.length c' ∧ Value.slice lo2 K.length c2 = .slice lo2' K'.length c2' ∧ Kept T D q K' ∧ K'.length ≤ 20 ∧ (∀ p ∈ K', p.2 < tn ∧ p.2 < m ∧ (D p.2).size ≤ 4096) ∧
        TwoRows w wr B G q (.slice lo' K'.length c') (.slice lo2' K'.length c2') K'.length (placesV K') (numsV K') from ⟨q, K, G, lo, lo2, c, c2, rfl, rfl, hkept, by omega, hidx, hrows⟩)
      have HI := Lib.hid hidx; clear hidx
      have HW := Lib.hid hrows; clear hrows
      have HKt := Lib.hid hkept; clear hkept
      obtain ⟨kn, hkn⟩ : ∃ kn, K.length = kn := ⟨_, rfl⟩
      rw [hkn] at hKk HP HW ⊢
      have Hkn := Lib.hid hkn; clear hkn
      by_cases hlt : k < m
      · obtain ⟨b, off, rfl, hc⟩ := (Hd2.out.ext (HW.out.keep.ext fun _ h => h)).cellAt k hlt
        have hxm := HDl.out k hlt
        obtain ⟨x, hx⟩ : ∃ x, D k = x := ⟨_, rfl⟩
        rw [hx] at hc hxm
        have Hx := Lib.hid hx; clear hx
        have CN := Lib.hid (Len_any B G q wr HW.out.wr)
        obtain ⟨F, hF⟩ : ∃ F, q.bytes.length = F := ⟨_, rfl⟩
        have hFl : F ≤ 36864 := by rw [← hF]; exact HKt.out.len
        rw [hF] at CN
        have HF := Lib.hid hF; clear hF
        have CN2 : Hid (Calls Try.prog 33 #[.pointer (some ⟨B, 0, none⟩)] wr fun e w' => e = .returned (.int .i64 F) ∧ wr = w') := CN
        clear CN
        unfold maxLen at hxm
        obtain ⟨xs, hxs⟩ : ∃ xs, x.size = xs := ⟨_, rfl⟩
        rw [hxs] at hxm
        by_cases hT : k < tn
        · obtain ⟨tb, toff, rfl, htc⟩ := (Ht.out.ext (HW.out.keep.ext fun _ h => h)).cellAt k hT
          by_cases hS : xs ≤ 4096
          · by_cases hQ : F ≤ 32768
            · have CW := Lib.hid fun (h : WrAt wr B G q) => DWrite_any B G q (T k) x wr (by rw [hxs]; omega) h HKt.out.ok
              have CC := Lib.hid fun W => DCheck_any (T k) x W (by rw [hxs]; omega)
              have hst := HKt.out.step (i := k) (by rw [HF.out]; exact hQ) (by rw [Hx.out, hxs]; exact hS)
              rw [Hx.out, HF.out] at hst
              have he : errR (T k) x = if rightB (T k) x then 0 else 2 := rfl
              have hw0 : rightB (T k) x = false → wroteW (T k) x q = q := fun h => by rw [wroteW, h]; rfl
              cases hb : rightB (T k) x with
              | false =>
                rw [hb] at he
                rw [hw0 hb, he] at CW
                rw [he] at CC
                clear hst hw0 he hb
                go_wp2_with fail
                refine CN2.out.mono ?_
                rintro e wr' ⟨rfl, rfl⟩
                go_wp2_with fail
                refine CN2.out.mono ?_
                rintro e wr' ⟨rfl, rfl⟩
                go_wp2_with fail
                refine (CW.out HW.out.wr).mono ?_
                rintro e w5 ⟨rfl, hw5, hk5⟩
                have HW5 := Lib.hid (HW.out.wrote hw5 hk5)
                clear hw5 hk5
                obtain ⟨tb5, toff5, e5, htc5⟩ := (Ht.out.ext (HW5.out.keep.ext fun _ h => h)).cellAt k hT
                cases e5
                go_wp2_with fail
                refine (CC.out _).mono ?_
                rintro e w6 ⟨rfl, hx6⟩
                have HW6 := Lib.hid (HW5.out.ext hx6); clear hx6
                have CN3 := Lib.hid (Len_any B G q w6 HW6.out.wr)
                rw [HF.out] at CN3
                have CN4 : Hid (Calls Try.prog 33 #[.pointer (some ⟨B, 0, none⟩)] w6 fun e w' => e = .returned (.int .i64 F) ∧ w6 = w') := CN3
                clear CN3
                go_wp2_with fail
                refine CN4.out.mono ?_
                rintro e w6' ⟨rfl, rfl⟩
                go_wp2
                go_roundw
                case rel => exact ⟨k + 1, q, K, G, lo, lo2, c, c2, by simp, by omega, by rw [Hkn.out]; omega, by rw [Hkn.out], by rw [Hkn.out], HKt.out, HI.out, by rw [Hkn.out]; exact HW6.out⟩
                case measure => simp [intOf]; omega
              | true =>
                rw [hb] at he
                rw [he] at CW
                have Hst := Lib.hid (hst hb)
                clear hst hw0 he hb CC
                go_wp2_with fail
                refine CN2.out.mono ?_
                rintro e wr' ⟨rfl, rfl⟩
                go_wp2_with fail
                refine CN2.out.mono ?_
                rintro e wr' ⟨rfl, rfl⟩
                go_wp2_with fail
                refine (CW.out HW.out.wr).mono ?_
                rintro e w5 ⟨rfl, hw5, hk5⟩
                have HW5 := Lib.hid (HW.out.wrote hw5 hk5)
                clear hw5 hk5
                obtain ⟨av', W1, kv', W2, G', hr1, hr2, hrows⟩ := HW5.out.push (F : Int) (k : Int) (by omega)
                obtain ⟨lo', c', ea⟩ := ownsRow_slice hrows.a
                obtain ⟨lo2', c2', ek⟩ := ownsRow_slice hrows.k
                subst ea ek
                have HR1 := Lib.hid hr1
                have HR2 := Lib.hid hr2
                have HW7 := Lib.hid hrows
                clear hr1 hr2 hrows
                go_wp2_with (at_builtin; first | (refine wpList_append_run rfl _ _ 48 48 rfl rfl rfl HR1.out ?_) | (refine wpList_append_run rfl _ _ 48 48 rfl rfl rfl HR2.out ?_))
                go_wp2
                go_roundw
                case rel =>
                  have hl1 : (K ++ [(F, k)]).length = kn + 1 := by rw [List.length_append, List.length_singleton, Hkn.out]
                  refine ⟨k + 1, _, K ++ [(F, k)], G', lo', lo2', c', c2', by simp, by omega, by rw [hl1]; omega, by rw [hl1], by rw [hl1], Hst.out, fun p hp => ?_, ?_⟩
                  · rcases List.mem_append.1 hp with hp | hp
                    · exact HI.out p hp
                    · obtain rfl : p = (F, k) := by simpa using hp
                      exact ⟨hT, hlt, by rw [Hx.out, hxs]; exact hS⟩
                  · rw [hl1]
                    have h7 := HW7.out
                    unfold placesV numsV at h7 ⊢
                    rw [List.map_append, List.map_append]
                    exact h7
                case measure => simp [intOf]; omega
            · go_wp2_with fail
              refine CN2.out.mono ?_
              rintro e wr' ⟨rfl, rfl⟩
              go_wp2
              go_meet
              exact HP.out
          · go_wp2
            go_meet
            exact HP.out
        · go_wp2
          go_meet
          exact HP.out
      · obtain rfl : k = m := by omega
        go_wp2
        go_meet
        exact HP.out
  case rest =>
    obtain ⟨q, K, G, lo, lo2, c, c2, rfl, rfl, hkept, hK20, hidx, hrows⟩ := hcut
    obtain ⟨s, hs⟩ : ∃ s, bytesOf q.bytes = s := ⟨_, rfl⟩
    have hbs : bl s = q.bytes := by rw [← hs]; exact bl_mk _
    have hout : outR q = (s, 0) := by rw [outR, hkept.full, ← hs]; rfl
    have hsz : s.size = q.bytes.length := by rw [← hbs, bl_size]
    have hsl : s.size ≤ 36864 := by rw [hsz]; exact hkept.len
    have hsg := hkept.segs
    rw [← hbs, bl_size] at hsg
    have Hsg := Lib.hid hsg; clear hsg
    have C := Lib.hid (Out_any B G q wc hrows.wr)
    rw [hout] at C
    have HI := Lib.hid hidx; clear hidx
    have HW := Lib.hid hrows; clear hrows
    obtain ⟨kn, hkn⟩ : ∃ kn, K.length = kn := ⟨_, rfl⟩
    rw [hkn] at hK20 HW ⊢
    have Hkn := Lib.hid hkn; clear hkn hs hbs hout hsz hkept
    go_wp2_with fail
    refine C.out.mono ?_
    rintro e wc' ⟨rfl, rfl⟩
    go_wp2_with fail
    refine (Open_any s wc).mono ?_
    rintro e w8 ⟨rfl, hr, hx⟩
    obtain ⟨R, hR⟩ : ∃ R, wc.heap.size = R := ⟨_, rfl⟩
    rw [hR] at hr ⊢
    have hRw : w.heap.size ≤ R := by rw [← hR]; exact HW.out.keep.size
    have HRa : Hid (∀ j, Value.ownBlock (.slice lo kn c) = some j → j ≠ R) := Lib.hid fun j hj => by have := (HW.out.a.lt j hj).2; omega
    have HRk : Hid (∀ j, Value.ownBlock (.slice lo2 kn c2) = some j → j ≠ R) := Lib.hid fun j hj => by have := (HW.out.k.lt j hj).2; omega
    have Ha := Lib.hid (hx.keeps.ownsRow2 HW.out.a fun _ _ => trivial)
    have Hk := Lib.hid (hx.keeps.ownsRow2 HW.out.k fun _ _ => trivial)
    have HK : Hid (Keeps (fun j => j < w.heap.size) w w8) := Lib.hid (HW.out.keep.trans (hx.keeps.mono fun _ _ _ => trivial))
    have Hr := Lib.hid hr
    clear hr hx hR
    obtain ⟨sz, hsz⟩ : ∃ sz, s.size = sz := ⟨_, rfl⟩
    rw [hsz] at hsl Hsg
    have Hsz := Lib.hid hsz; clear hsz
    go_wp2_with fail
    go_loopw [102] (fun i wz => ∃ (j p : Nat), j ≤ kn ∧ i = .int .i64 j ∧ p ≤ sz ∧ RdAt wz R ⟨s, p, false⟩ ∧ Segs T D (bl s) p (K.drop j) sz ∧ Keeps (fun k => k ≠ R) w8 wz)
      (fun i _ => kn - (intOf i).toNat)
    case atStart => exact ⟨0, 0, Nat.zero_le _, rfl, Nat.zero_le _, Hr.out, Hsg.out, Keeps.refl _ _⟩
    case round =>
      obtain ⟨j, p, hj, rfl, hp, hr, hsg, hkz⟩ := hrel
      have Hkz := Lib.hid hkz; clear hkz
      have Hrz := Lib.hid hr; clear hr
      have hRz : R < wr.heap.size := (Array.getElem?_eq_some_iff.1 Hrz.out).1
      have hokp : (⟨s, p, false⟩ : Rd).ok := ⟨by rw [show (⟨s, p, false⟩ : Rd).s.size = sz from Hsz.out]; exact hp, by rw [show (⟨s, p, false⟩ : Rd).s.size = sz from Hsz.out]; omega⟩
      have HKw : Hid (Keeps (fun j => j < w.heap.size) w wr) := Lib.hid (HK.out.trans (Hkz.out.mono fun j _ hj => by omega))
      by_cases hjl : j < kn
      · have hjl' : j < K.length := by rw [Hkn.out]; exact hjl
        rw [List.drop_eq_getElem_cons hjl'] at hsg
        obtain ⟨⟨pp, ix⟩, hpe⟩ : ∃ z, K[j] = z := ⟨_, rfl⟩
        rw [hpe] at hsg
        obtain ⟨rfl, s1, s2, s3, s4, s5⟩ := seg_read hsg
        obtain ⟨i1, i2, i3⟩ := HI.out (pp, ix) (by rw [← hpe]; exact List.getElem_mem hjl')
        simp only at i1 i2 i3
        have hnx : j + 1 < kn → (placesV K)[j + 1]? = some (.int .i64 (nextAt (K.drop (j + 1)) sz : Nat)) := fun h => by
          have h' : j + 1 < K.length := by rw [Hkn.out]; exact h
          rw [placesV, List.getElem?_map, List.getElem?_eq_getElem h', List.drop_eq_getElem_cons h']
          rfl
        have hnx2 : ¬ j + 1 < kn → nextAt (K.drop (j + 1)) sz = sz := fun h => by
          rw [List.drop_eq_nil_of_le (by rw [Hkn.out]; omega)]; rfl
        have hat : (placesV K)[j]? = some (.int .i64 (pp : Nat)) := by rw [placesV, List.getElem?_map, List.getElem?_eq_getElem hjl', hpe]; rfl
        have hnu : (numsV K)[j]? = some (.int .i64 (ix : Nat)) := by rw [numsV, List.getElem?_map, List.getElem?_eq_getElem hjl', hpe]; rfl
        obtain ⟨nx, hnxe⟩ : ∃ nx, nextAt (K.drop (j + 1)) sz = nx := ⟨_, rfl⟩
        rw [hnxe] at s1 s2 s3 s4 s5 hnx hnx2
        have har := Hkz.out.ownsRow2 Ha.out HRa.out
        have hkr := Hkz.out.ownsRow2 Hk.out HRk.out
        obtain ⟨ga, rfl, hca⟩ := row_cell har j _ hat
        obtain ⟨gk, rfl, hck⟩ := row_cell hkr j _ hnu
        obtain ⟨tb, toff, rfl, htc⟩ := (Ht.out.ext (HKw.out.ext fun _ h => h)).cellAt ix i1
        obtain ⟨b, off, rfl, hdc⟩ := (Hd2.out.ext (HKw.out.ext fun _ h => h)).cellAt ix i2
        rw [Hsz.out] at s2
        have CR := Lib.hid fun W h => DRead_any R ⟨s, pp, false⟩ (T ix) ((nx : Int) - pp) W h hokp (by rw [show (⟨s, pp, false⟩ : Rd).s.size = sz from Hsz.out]; omega) (by omega)
        rw [s3, s4] at CR
        have hdd : (D ix).toList = (D ix).toList := rfl
        have CN := Lib.hid fun W => DNames_any (T ix) (D ix) W (by omega)
        have hnn := names_right (T ix) (D ix) (by omega)
        obtain ⟨x, hx⟩ : ∃ x, D ix = x := ⟨_, rfl⟩
        rw [hx] at hdc CR CN hnn
        have Hxx := Lib.hid hx
        have Hs5 := Lib.hid s5
        have Hnn := Lib.hid hnn
        clear hsg s3 s4 s5 hx hnn hdd hat hnu hpe har hkr i3 hjl'
        by_cases hl : j + 1 < kn
        · obtain ⟨ga', e2, hcn⟩ := row_cell (Hkz.out.ownsRow2 Ha.out HRa.out) (j + 1) _ (hnx hl)
          cases e2
          clear hnx hnx2
          go_wp2_with fail
          have hb : (x.toList != x.toList) = false := by simp
          have hgx : ga ≠ R := HRa.out ga rfl
          obtain ⟨tb0, toff0, e0, htc0⟩ := Ht.out.cellAt ix i1
          cases e0
          have hTb : tb ≠ R := by have := World.block_lt_of_cell? w _ htc0; simp only at this; omega
          clear htc0
          have hwr : IntKind.i64.wrap ((nx : Int) - pp) = (nx : Int) - pp := IntWalk.i64_in _ (by omega)
          have i1i : (ix : Int) < tn := by omega
          have i2i : (j : Int) < kn := by omega
          go_region_held3 (fun w' => w'.cell? ⟨tb, toff + ix, none⟩ = some (.int .u16 (T ix)) ∧ w'.cell? ⟨ga, j, none⟩ = some (.int .i64 (pp : Int)))
            (first | exact ⟨htc, hca⟩ | exact ⟨htc9, hca9⟩ | go_keep)
            (first | (go_at_call 37; refine (CR.out _ ((Keeps.refl (fun _ => True) wr).drew.rd Hrz.out trivial)).mono ?_; rintro e w10 ⟨rfl, hr10, hk10⟩; have htc9 := hk10.cell (p := ⟨tb, toff + ix, none⟩) htc hTb; have hca9 := hk10.cell (p := ⟨ga, j, none⟩) hca hgx))
          clear hwr i1i i2i
          have HK10 : Hid (Keeps (fun k => k ≠ R) w8 w10) := Lib.hid (Hkz.out.drew.trans hk10)
          have HK11 : Hid (Keeps (fun j => j < w.heap.size) w w10) := Lib.hid (HK.out.trans (HK10.out.mono fun j _ hj => by omega))
          have Hr10 := Lib.hid hr10
          clear hr10 hk10 htc hdc hca hck
          obtain ⟨tb5, toff5, e5, htc5⟩ := (Ht.out.ext (HK11.out.ext fun _ h => h)).cellAt ix i1
          cases e5
          obtain ⟨b5, off5, e6, hdc5⟩ := (Hd2.out.ext (HK11.out.ext fun _ h => h)).cellAt ix i2
          cases e6
          have hix : D ix = x := Hxx.out
          simp only [hix] at hdc5
          clear hix
          go_wp2_with fail
          refine (CN.out w10).mono ?_
          rintro e w11 ⟨v, rfl, hst, hx11⟩
          have Hst := Lib.hid hst
          have Hx11 := Lib.hid hx11
          clear hx11 hst
          obtain ⟨nl, hnl⟩ : ∃ nl, namesD (T ix) x = nl := ⟨_, rfl⟩
          have hnl2 := hnl
          rw [hnl] at Hst Hnn
          clear hnl htc5 hdc5
          obtain ⟨nao, ncap, hv, _⟩ := Hst.out.open
          subst hv
          obtain ⟨n3, hn3⟩ : ∃ n3, nl.length = n3 := ⟨_, rfl⟩
          have hn15 : n3 ≤ 15 := by rw [← hn3, ← hnl2]; exact namesD_length _ _
          rw [hn3] at Hst ⊢
          have Hn3 := Lib.hid hn3; clear hn3
          go_wp2_with fail
          go_loopw [151] (fun i wz => ∃ (u : Nat), u ≤ n3 ∧ i = .int .i64 u ∧ Ext w11 wz)
            (fun i _ => n3 - (intOf i).toNat)
          case atStart => exact ⟨0, Nat.zero_le _, rfl, Ext.refl _⟩
          case round =>
            obtain ⟨u, hu, rfl, hxu⟩ := hrel
            have Hxu := Lib.hid hxu; clear hxu
            by_cases hul : u < n3
            · have hul' : u < nl.length := by rw [Hn3.out]; exact hul
              obtain ⟨ao3, cap3, e7, e8⟩ := (Hst.out.ext Hxu.out).open
              obtain ⟨b9, off9, e9, hc9⟩ := e8 u hul'
              simp only [Value.slice.injEq] at e7
              obtain rfl : nao = some ⟨b9, off9, none⟩ := e7.1.trans e9
              rw [List.getElem?_eq_getElem hul', Option.getD_some] at hc9
              have hyn := Hnn.out nl[u] (List.getElem_mem hul')
              obtain ⟨y, hy⟩ : ∃ y, nl[u] = y := ⟨_, rfl⟩
              rw [hy] at hc9 hyn
              have CC := Lib.hid fun W => Check_any y W (by have := name_le hyn; unfold maxLen; omega)
              rw [chk_name hyn] at CC
              clear e7 e8 e9 hyn hy hul'
              go_wp2_with fail
              refine (CC.out _).mono ?_
              rintro e w12 ⟨rfl, hx12⟩
              have Hx12 := Lib.hid (Ext.trans Hxu.out hx12); clear hx12
              go_wp2
              go_roundw
              case rel => exact ⟨u + 1, by omega, by simp, Hx12.out⟩
              case measure => simp [intOf]; omega
            · obtain rfl : u = n3 := by omega
              go_wp2
              go_roundw
              case rel => exact ⟨j + 1, nx, by omega, by simp, by omega, Hxu.out.keeps.rd (Hx11.out.keeps.rd Hr10.out trivial) trivial, Hs5.out, HK10.out.trans ((Hx11.out.trans Hxu.out).keeps.mono fun _ _ _ => trivial)⟩
              case measure => simp [intOf]; omega
        · have hnz := hnx2 hl
          have hns : nx = s.size := hnz.trans Hsz.out.symm
          have Hns := Lib.hid hns
          rw [hns] at CR s1
          clear hnx hnx2 hnz hns
          have s2 : s.size ≤ 36864 := by rw [Hsz.out]; exact hsl
          go_wp2_with fail
          have hb : (x.toList != x.toList) = false := by simp
          have hgx : ga ≠ R := HRa.out ga rfl
          obtain ⟨tb0, toff0, e0, htc0⟩ := Ht.out.cellAt ix i1
          cases e0
          have hTb : tb ≠ R := by have := World.block_lt_of_cell? w _ htc0; simp only at this; omega
          clear htc0
          have hwr : IntKind.i64.wrap ((s.size : Int) - pp) = (s.size : Int) - pp := IntWalk.i64_in _ (by omega)
          have i1i : (ix : Int) < tn := by omega
          have i2i : (j : Int) < kn := by omega
          go_region_held3 (fun w' => w'.cell? ⟨tb, toff + ix, none⟩ = some (.int .u16 (T ix)) ∧ w'.cell? ⟨ga, j, none⟩ = some (.int .i64 (pp : Int)))
            (first | exact ⟨htc, hca⟩ | exact ⟨htc9, hca9⟩ | go_keep)
            (first | (go_at_call 37; refine (CR.out _ ((Keeps.refl (fun _ => True) wr).drew.rd Hrz.out trivial)).mono ?_; rintro e w10 ⟨rfl, hr10, hk10⟩; have htc9 := hk10.cell (p := ⟨tb, toff + ix, none⟩) htc hTb; have hca9 := hk10.cell (p := ⟨ga, j, none⟩) hca hgx))
          clear hwr i1i i2i
          have HK10 : Hid (Keeps (fun k => k ≠ R) w8 w10) := Lib.hid (Hkz.out.drew.trans hk10)
          have HK11 : Hid (Keeps (fun j => j < w.heap.size) w w10) := Lib.hid (HK.out.trans (HK10.out.mono fun j _ hj => by omega))
          have Hr10 : Hid (RdAt w10 R ⟨s, nx, false⟩) := Lib.hid (by rw [Hns.out]; exact hr10)
          clear hr10 hk10 htc hdc hca hck
          obtain ⟨tb5, toff5, e5, htc5⟩ := (Ht.out.ext (HK11.out.ext fun _ h => h)).cellAt ix i1
          cases e5
          obtain ⟨b5, off5, e6, hdc5⟩ := (Hd2.out.ext (HK11.out.ext fun _ h => h)).cellAt ix i2
          cases e6
          have hix : D ix = x := Hxx.out
          simp only [hix] at hdc5
          clear hix
          go_wp2_with fail
          refine (CN.out w10).mono ?_
          rintro e w11 ⟨v, rfl, hst, hx11⟩
          have Hst := Lib.hid hst
          have Hx11 := Lib.hid hx11
          clear hx11 hst
          obtain ⟨nl, hnl⟩ : ∃ nl, namesD (T ix) x = nl := ⟨_, rfl⟩
          have hnl2 := hnl
          rw [hnl] at Hst Hnn
          clear hnl htc5 hdc5
          obtain ⟨nao, ncap, hv, _⟩ := Hst.out.open
          subst hv
          obtain ⟨n3, hn3⟩ : ∃ n3, nl.length = n3 := ⟨_, rfl⟩
          have hn15 : n3 ≤ 15 := by rw [← hn3, ← hnl2]; exact namesD_length _ _
          rw [hn3] at Hst ⊢
          have Hn3 := Lib.hid hn3; clear hn3
          go_wp2_with fail
          go_loopw [151] (fun i wz => ∃ (u : Nat), u ≤ n3 ∧ i = .int .i64 u ∧ Ext w11 wz)
            (fun i _ => n3 - (intOf i).toNat)
          case atStart => exact ⟨0, Nat.zero_le _, rfl, Ext.refl _⟩
          case round =>
            obtain ⟨u, hu, rfl, hxu⟩ := hrel
            have Hxu := Lib.hid hxu; clear hxu
            by_cases hul : u < n3
            · have hul' : u < nl.length := by rw [Hn3.out]; exact hul
              obtain ⟨ao3, cap3, e7, e8⟩ := (Hst.out.ext Hxu.out).open
              obtain ⟨b9, off9, e9, hc9⟩ := e8 u hul'
              simp only [Value.slice.injEq] at e7
              obtain rfl : nao = some ⟨b9, off9, none⟩ := e7.1.trans e9
              rw [List.getElem?_eq_getElem hul', Option.getD_some] at hc9
              have hyn := Hnn.out nl[u] (List.getElem_mem hul')
              obtain ⟨y, hy⟩ : ∃ y, nl[u] = y := ⟨_, rfl⟩
              rw [hy] at hc9 hyn
              have CC := Lib.hid fun W => Check_any y W (by have := name_le hyn; unfold maxLen; omega)
              rw [chk_name hyn] at CC
              clear e7 e8 e9 hyn hy hul'
              go_wp2_with fail
              refine (CC.out _).mono ?_
              rintro e w12 ⟨rfl, hx12⟩
              have Hx12 := Lib.hid (Ext.trans Hxu.out hx12); clear hx12
              go_wp2
              go_roundw
              case rel => exact ⟨u + 1, by omega, by simp, Hx12.out⟩
              case measure => simp [intOf]; omega
            · obtain rfl : u = n3 := by omega
              go_wp2
              go_roundw
              case rel => exact ⟨j + 1, nx, by omega, by simp, by omega, Hxu.out.keeps.rd (Hx11.out.keeps.rd Hr10.out trivial) trivial, Hs5.out, HK10.out.trans ((Hx11.out.trans Hxu.out).keeps.mono fun _ _ _ => trivial)⟩
              case measure => simp [intOf]; omega
      · obtain rfl : j = kn := by omega
        have hpe : p = sz := by
          rw [List.drop_eq_nil_of_le (by rw [Hkn.out]; exact Nat.le_refl _)] at hsg
          exact hsg
        subst hpe
        have C1 := Lib.hid (Bad_any R ⟨s, p, false⟩ wr.drew ((Keeps.refl (fun _ => True) wr).drew.rd Hrz.out trivial))
        have C2 := Lib.hid (Left_any R ⟨s, p, false⟩ wr Hrz.out hokp)
        have hl0 : (⟨s, p, false⟩ : Rd).left = 0 := by rw [show (⟨s, p, false⟩ : Rd).left = s.size - p from rfl, Hsz.out, Nat.sub_self]
        rw [hl0] at C2
        clear hsg hl0
        go_wp2_with fail
        refine C2.out.mono ?_
        rintro e wr' ⟨rfl, rfl⟩
        go_wp2_with fail
        refine C1.out.mono ?_
        rintro e wr' ⟨rfl, rfl⟩
        go_wp2
        go_ret
        exact ⟨rfl, HKw.out.drew.ext fun _ h => h⟩

end Go.Proofs.Yteoelhhkdfmaiaa
