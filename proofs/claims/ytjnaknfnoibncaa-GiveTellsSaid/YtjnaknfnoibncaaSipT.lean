/- What the reference's Words and Sum do. Conditions: texts of at most 65536 bytes. -/
import Derived.Test.YtjnaknfnoibncaaSipS
namespace Go.Proofs.Ytjnaknfnoibncaa
open Go Go.RowKit Go.Shelf
attribute [local go_sem] Oper.semAt_some wide_fn wide_depth

theorem lastR (r L : Nat) (hr : r < 72057594037927936) :
    IntKind.u64.wrap ((r : Int) + (L : Int) % 256 * 72057594037927936) = ((r + L % 256 * 72057594037927936 : Nat) : Int) := by
  rw [IntKind.wrap_u64]; omega

set_option maxRecDepth 100000 in
set_option maxHeartbeats 4000000 in
theorem RWords_any (s : ByteArray) (w : World) (hs : s.size ≤ 65536) :
    Calls Try.prog 88 #[.string s] w fun e w' => ∃ v, e = .returned v ∧ w'.ownsRow w.heap.size 44 1 v (wordsB s).length (encU (wordsB s)) ∧ Ext w w' := by
  obtain ⟨i0, hi, hz0, hz1, hz2⟩ := info_parts infoU64
  obtain ⟨Q, hQ⟩ : ∃ Q, s.size / 8 = Q := ⟨_, rfl⟩
  have hws : wordsB s = (List.range (Q + 1)).map (wordJ s) := by rw [wordsB, hQ]
  have hwl : (wordsB s).length = Q + 1 := by rw [wordsB_length, hQ]
  have hQ1 : 8 * Q ≤ s.size := by omega
  have hQ2 : s.size < 8 * Q + 8 := by omega
  have HQ := Lib.hid hQ; clear hQ
  have HWS := Lib.hid hws; clear hws
  rw [hwl]
  clear hwl
  obtain ⟨L, hL⟩ : ∃ L, s.size = L := ⟨_, rfl⟩
  rw [hL] at hs hQ1 hQ2
  have HL := Lib.hid hL
  go_enter Try.func88, Try.ntmps88
  go_wp2_with fail
  clear hL
  go_loopw [0, 3] (fun t v wr => ∃ j : Nat, j ≤ Q ∧ t = .string (s.extract (8 * j) s.size) ∧ wr.ownsRow w.heap.size 44 1 v j (encU ((List.range j).map (wordJ s))) ∧ Ext w wr)
    (fun t _ _ => match t with | .string t => t.size | _ => 0)
  case atStart => exact ⟨0, Nat.zero_le _, by rw [Nat.mul_zero, ByteArray.extract_zero_size], World.ownsRow_nil _ _ _ _, Ext.refl _⟩
  case round =>
    obtain ⟨j, hj, rfl, hown, hx⟩ := hrel
    have hsz := hx.size
    have HX := Lib.hid hx
    clear hx
    obtain ⟨r, hr⟩ : ∃ r, s.extract (8 * j) s.size = r := ⟨_, rfl⟩
    have hrs : r.size = L - 8 * j := by rw [← hr, size_restS, HL.out]
    rw [hr]
    by_cases hlt : j < Q
    · have hr8 : 8 ≤ r.size := by omega
      have hwj : wordJ s j = lowB (r.extract 0 8).data.toList := by
        unfold wordJ
        rw [if_pos (by rw [HQ.out]; exact hlt), ext_list, ← hr, rest_list]; simp
      have CN0 := fun W => low_any (r.extract 0 8) W (by simp only [ByteArray.size_extract]; omega)
      obtain ⟨v, hv⟩ : ∃ v, lowB (r.extract 0 8).data.toList = v := ⟨_, rfl⟩
      rw [hv] at hwj CN0
      have CN := Lib.hid CN0
      have hsn : encU ((List.range (j + 1)).map (wordJ s)) = encU ((List.range j).map (wordJ s)) ++ [.int .u64 (v : Nat)] := by
        rw [range_snoc, hwj, encU, List.map_append]; rfl
      have hrr : r.extract 8 r.size = s.extract (8 * (j + 1)) s.size := by rw [← hr, rest_rest, Nat.mul_add, Nat.mul_one]
      have Hrr := Lib.hid hrr
      have Hrs := Lib.hid hrs
      have Hsn := Lib.hid hsn
      have hown2 := hown.alloc (.cells #[.int .u64 (v : Int)] 44)
      have hbase : w.heap.size ≤ (wr.alloc (.cells #[.int .u64 (v : Int)] 44)).heap.size := by simp; omega
      have Hown := Lib.hid hown
      clear hwj hsn hr hrs hrr hv CN0 hown
      go_wp2_with (first
        | ((with_reducible refine (CN.out _).mono ?_); rintro e w' ⟨rfl, rfl⟩)
        | (at_builtin; refine wpList_append_own _ rfl _ _ 126 rfl w.heap.size 44 i0 (.int .u64 0) 1 8 Try.underlying126 hi hz0 hz1 hz2 rfl (by decide) _ _ _ rfl hown2 ⟨wr.heap.size, 0, none⟩ 1 1 [.int .u64 (v : Int)] rfl rfl ?c1 ?c2 ?c3 ?c4 ?c5 ?_))
      case c1 =>
        intro j u hj
        match j, hj with
        | 0, hj => simp at hj; subst hj; simp [Addr.add]
      case c2 => intro u hu; simp at hu; subst hu; rfl
      case c3 => unfold maxLen; omega
      case c4 => omega
      case c5 => exact hbase
      intro v1 w3 hown' hgrow _
      obtain ⟨ao', cap', hv1⟩ := ownsRow_slice hown'
      subst hv1
      have hrow := hown2.lt
      have hk3 : Keeps (fun j => j < w.heap.size) wr w3 := ((Keeps.refl _ wr).alloc _).grown hgrow (fun j e h => by have := (hrow j e).1; omega)
      have Hown' := Lib.hid hown'
      have HX3 : Hid (Ext w w3) := Lib.hid (Below.trans HX.out (hk3.below hsz (fun j hj => hj)))
      clear hown' hgrow hrow hown2 hk3 hbase
      go_wp2_with fail
      go_roundw
      case rel => exact ⟨j + 1, by omega, by rw [Hrr.out], by rw [Hsn.out]; exact Hown'.out, HX3.out⟩
      case measure => show (r.extract 8 r.size).size < r.size; rw [size_restS]; omega
    · obtain rfl : j = Q := by omega
      have hr8 : r.size < 8 := by omega
      have CN0 := fun W => low_any r W (by omega)
      have hlt7 := lowB_lt7 (l := r.data.toList) (by rw [len_list]; omega)
      have hwj : wordJ s j = lowB r.data.toList + L % 256 * 72057594037927936 := by
        unfold wordJ
        rw [if_neg (by rw [HQ.out]; omega), ← hr, rest_list, HL.out]
      obtain ⟨v, hv⟩ : ∃ v, lowB r.data.toList = v := ⟨_, rfl⟩
      rw [hv] at hwj CN0 hlt7
      have hl := lastR v L hlt7
      obtain ⟨x, hx⟩ : ∃ x, v + L % 256 * 72057594037927936 = x := ⟨_, rfl⟩
      rw [hx] at hl hwj
      have CN := Lib.hid CN0
      have hsn : encU (wordsB s) = encU ((List.range j).map (wordJ s)) ++ [.int .u64 (x : Nat)] := by
        rw [HWS.out, range_snoc, hwj, encU, List.map_append]; rfl
      have Hsn := Lib.hid hsn
      have hown2 := hown.alloc (.cells #[.int .u64 (x : Int)] 44)
      have hbase : w.heap.size ≤ (wr.alloc (.cells #[.int .u64 (x : Int)] 44)).heap.size := by simp; omega
      have Hown := Lib.hid hown
      clear hwj hsn hr hrs hv CN0 hown hx hlt7
      go_wp2_with (first
        | ((with_reducible refine (CN.out _).mono ?_); rintro e w' ⟨rfl, rfl⟩)
        | (at_builtin; refine wpList_append_own _ rfl _ _ 126 rfl w.heap.size 44 i0 (.int .u64 0) 1 8 Try.underlying126 hi hz0 hz1 hz2 rfl (by decide) _ _ _ rfl hown2 ⟨wr.heap.size, 0, none⟩ 1 1 [.int .u64 (x : Int)] rfl rfl ?c1 ?c2 ?c3 ?c4 ?c5 ?_))
      case c1 =>
        intro j u hj
        match j, hj with
        | 0, hj => simp at hj; subst hj; simp [Addr.add]
      case c2 => intro u hu; simp at hu; subst hu; rfl
      case c3 => unfold maxLen; omega
      case c4 => omega
      case c5 => exact hbase
      intro v1 w3 hown' hgrow _
      have hrow := hown2.lt
      have hk3 : Keeps (fun j => j < w.heap.size) wr w3 := ((Keeps.refl _ wr).alloc _).grown hgrow (fun j e h => by have := (hrow j e).1; omega)
      have Hown' := Lib.hid hown'
      have HX3 : Hid (Ext w w3) := Lib.hid (Below.trans HX.out (hk3.below hsz (fun j hj => hj)))
      clear hown' hgrow hrow hown2 hk3 hbase
      go_wp2_with fail
      go_ret
      exact ⟨v1, rfl, by rw [Hsn.out]; exact Hown'.out, HX3.out⟩

set_option maxRecDepth 100000 in
set_option maxHeartbeats 4000000 in
theorem RSum_go (key s : ByteArray) (w : World) (hk : key.size = 16) (hs : s.size ≤ 65536) :
    Calls Try.prog 67 #[.string key, .string s] w fun e w' => e = .returned (.tuple #[.int .u64 (sumM key s : Nat), .int .i64 0]) ∧ Ext w w' := by
  have C1 := fun W => low_any (key.extract 0 8) W (by rw [ByteArray.size_extract]; omega)
  have C2 := fun W => low_any (key.extract 8 key.size) W (by rw [ByteArray.size_extract]; omega)
  have h1 := lowB_lt8 (l := (key.extract 0 8).data.toList) (by rw [len_list, ByteArray.size_extract]; omega)
  have h2 := lowB_lt8 (l := (key.extract 8 key.size).data.toList) (by rw [len_list, ByteArray.size_extract]; omega)
  have HS : Hid (sumM key s = foldM (lastM (wordsM (beginM (lowB (key.extract 0 8).data.toList) (lowB (key.extract 8 key.size).data.toList)) (wordsB s)))) := Lib.hid rfl
  obtain ⟨x, hx⟩ : ∃ x, lowB (key.extract 0 8).data.toList = x := ⟨_, rfl⟩
  obtain ⟨y, hy⟩ : ∃ y, lowB (key.extract 8 key.size).data.toList = y := ⟨_, rfl⟩
  rw [hx] at C1 h1 HS
  rw [hy] at C2 h2 HS
  have g1 : Go.bits .xor .u64 (x : Int) 8317987319222330741 = (((beginM x y).a : Nat) : Int) := bits_xor_u64_nat x 8317987319222330741 h1 (by decide)
  have g2 : Go.bits .xor .u64 (y : Int) 7237128888997146477 = (((beginM x y).b : Nat) : Int) := bits_xor_u64_nat y 7237128888997146477 h2 (by decide)
  have g3 : Go.bits .xor .u64 (x : Int) 7816392313619706465 = (((beginM x y).c : Nat) : Int) := bits_xor_u64_nat x 7816392313619706465 h1 (by decide)
  have g4 : Go.bits .xor .u64 (y : Int) 8387220255154660723 = (((beginM x y).d : Nat) : Int) := bits_xor_u64_nat y 8387220255154660723 h2 (by decide)
  have hok0 := beginM_ok h1 h2
  obtain ⟨s0, hs0⟩ : ∃ s0, beginM x y = s0 := ⟨_, rfl⟩
  rw [hs0] at HS hok0 g1 g2 g3 g4
  have D1 := Lib.hid C1
  have D2 := Lib.hid C2
  have CW := Lib.hid fun W => RWords_any s W hs
  have Hok := Lib.hid hok0
  have h16 : ((key.size : Int) != 16) = false := by rw [hk]; rfl
  have h65 : decide ((65536 : Int) < (s.size : Int)) = false := decide_eq_false (by omega)
  have k8 : (8 : Int) ≤ (key.size : Int) := by omega
  have hlt := wordsB_lt s
  have hwl : (wordsB s).length ≤ 8193 := by rw [wordsB_length]; omega
  have hwp : ∃ n, (wordsB s).length = n + 1 := ⟨_, wordsB_length s⟩
  obtain ⟨xs, hxs⟩ : ∃ xs, wordsB s = xs := ⟨_, rfl⟩
  rw [hxs] at HS CW hlt hwl hwp
  obtain ⟨n, hn⟩ := hwp
  rw [hn] at CW hwl
  have HN := Lib.hid hn
  have HLT := Lib.hid hlt
  clear hx hy hs0 hok0 hk C1 C2 h1 h2 hxs hlt hn
  go_enter Try.func67, Try.ntmps67
  go_wp2_with fail
  refine wp_region_still (by kernel_rfl) (by kernel_rfl) ?_
  iterate 2 still_step
  still_call ((D1.out _).mono fun _ _ h => ⟨h.1, h.2.symm⟩)
  iterate 2 still_step
  still_call ((D2.out _).mono fun _ _ h => ⟨h.1, h.2.symm⟩)
  iterate 2 still_step
  refine wpStill_nil ?_
  clear k8
  go_wp2_with fail
  refine (CW.out _).mono ?_
  rintro e w1 ⟨v, rfl, hown, hx1⟩
  obtain ⟨g, cap, rfl⟩ := ownsRow_succ hown
  have hsz0 : (w.alloc (.cells (encU s0.list).toArray 119)).drew.heap.size = w.heap.size + 1 := by simp
  have hB : NumsAt w1 w.heap.size 119 s0.list := NumsAt.keeps (W := (w.alloc (.cells (encU s0.list).toArray 119)).drew) (NumsAt.new w _ _) hx1.keeps trivial
  have hown1 : w1.ownsRow (w.heap.size + 1) 44 1 (.slice (some ⟨g, 0, none⟩) (n + 1) cap) (n + 1) (encU xs) := hsz0 ▸ hown
  have hxw : Ext w w1 := (((Ext.refl w).alloc _).drew).trans hx1
  have HB := Lib.hid hB
  have HOWN := Lib.hid hown1
  have HXW := Lib.hid hxw
  clear hown hx1 hsz0 hB hown1 hxw g1 g2 g3 g4 h16 h65
  go_wp2_with fail
  go_loopw [35] (fun i wr => ∃ k : Nat, k ≤ n + 1 ∧ i = .int .i64 k ∧ NumsAt wr w.heap.size 119 (wordsM s0 (xs.take k)).list ∧ wr.ownsRow (w.heap.size + 1) 44 1 (.slice (some ⟨g, 0, none⟩) (n + 1) cap) (n + 1) (encU xs) ∧ Ext w wr) (fun i _ => n + 1 - (intOf i).toNat)
  case atStart => exact ⟨0, Nat.zero_le _, rfl, HB.out, HOWN.out, HXW.out⟩
  case round =>
    obtain ⟨k, hk, rfl, hb, hown, hx⟩ := hrel
    have HX := Lib.hid hx
    have HO := Lib.hid hown
    clear hx hown
    by_cases hlt : k < n + 1
    · have hkl : k < xs.length := by rw [HN.out]; exact hlt
      obtain ⟨x, hxk⟩ : ∃ x, xs[k]? = some x := ⟨xs[k], List.getElem?_eq_getElem hkl⟩
      have hx64 : x < 18446744073709551616 := HLT.out x (List.mem_of_getElem? hxk)
      have hpre : ∀ m ∈ xs.take k, m < 18446744073709551616 := fun m hm => HLT.out m (List.mem_of_mem_take hm)
      have hst := wordsM_ok (xs.take k) Hok.out hpre
      have HW : Hid (wordsM s0 (xs.take (k + 1)) = wordM (wordsM s0 (xs.take k)) x) := Lib.hid (by
        rw [List.take_add_one, hxk, Option.toList_some, wordsM_snoc])
      have hcx : wr.cell? ⟨g, k, none⟩ = some (.int .u64 (x : Int)) := by
        have := HO.out.cells (g := g) rfl k _ (encU_at hxk)
        have hp : (⟨g, 0, none⟩ : Addr).add k = ⟨g, k, none⟩ := by unfold Addr.add; split <;> simp_all
        rwa [hp] at this
      obtain ⟨st, hste⟩ : ∃ st, wordsM s0 (xs.take k) = st := ⟨_, rfl⟩
      rw [hste] at hb hst HW
      have CR := fun W => RRounds_any (inM st x) 2 W (inM_ok hst hx64) (by decide) (by decide)
      have HW2 : Hid (wordM st x = outM (roundsM 2 (inM st x)) x) := Lib.hid rfl
      have hs2 : (roundsM 2 (inM st x)).ok := roundsM_ok (inM_ok hst hx64) 2
      obtain ⟨s2, hs2e⟩ : ∃ s2, roundsM 2 (inM st x) = s2 := ⟨_, rfl⟩
      have h2 : (min (2 : Int) 64).toNat = 2 := rfl
      rw [h2, hs2e] at CR
      simp only [St.lit, inM] at CR
      have CR := Lib.hid CR
      rw [hs2e] at HW2 hs2
      have hx1 := bits_xor_u64_nat st.d x hst.d hx64
      have hx2 := bits_xor_u64_nat s2.a x hs2.a hx64
      have c0 := hb.cell (i := 0) (x := st.a) rfl
      have c1 := hb.cell (i := 1) (x := st.b) rfl
      have c2 := hb.cell (i := 2) (x := st.c) rfl
      have c3 := hb.cell (i := 3) (x := st.d) rfl
      have f3 := hb.frozen 3
      have Hb1 : Hid (NumsAt (wr.setCell ⟨w.heap.size, 3, none⟩ (.int .u64 (st.d ^^^ x : Nat))) w.heap.size 119 (inM st x).list) := Lib.hid (hb.set 3 (st.d ^^^ x))
      have hi1 : (k : Int) < (n : Int) + 1 := by omega
      clear hste hs2e h2 hb hxk
      go_wp2_with fail
      refine (CR.out _).mono ?_
      rintro e w3 ⟨rfl, hx3⟩
      have hb3 := Hb1.out.keeps hx3.keeps trivial
      have hkA : Keeps (fun k => k ≠ w.heap.size) wr w3 := ((Keeps.refl _ wr).setCell (p := ⟨w.heap.size, 3, none⟩) (fun h => h rfl) _).trans (hx3.keeps.mono fun _ _ _ => trivial)
      have d0 := hb3.cell (i := 0) (x := st.a) rfl
      have d1 := hb3.cell (i := 1) (x := st.b) rfl
      have d2 := hb3.cell (i := 2) (x := st.c) rfl
      have d3 := hb3.cell (i := 3) (x := st.d ^^^ x) rfl
      have e0 := hb3.frozen 0
      have e1 := hb3.frozen 1
      have e2 := hb3.frozen 2
      have e3 := hb3.frozen 3
      have Hb3 := Lib.hid hb3
      have HkA := Lib.hid hkA
      clear hb3 hkA hx3 c0 c1 c2 c3 f3 CR hcx
      go_wp2_with fail
      have hfin : ∀ W, W = ((((w3.setCell ⟨w.heap.size, 0, none⟩ (.int .u64 (s2.a : Nat))).setCell ⟨w.heap.size, 1, none⟩ (.int .u64 (s2.b : Nat))).setCell ⟨w.heap.size, 2, none⟩ (.int .u64 (s2.c : Nat))).setCell ⟨w.heap.size, 3, none⟩ (.int .u64 (s2.d : Nat))).setCell ⟨w.heap.size, 0, none⟩ (.int .u64 (s2.a ^^^ x : Nat)) →
          NumsAt W w.heap.size 119 (outM s2 x).list ∧ Keeps (fun k => k ≠ w.heap.size) w3 W := by
        rintro W rfl
        exact ⟨((((Hb3.out.set 0 s2.a).set 1 s2.b).set 2 s2.c).set 3 s2.d).set 0 (s2.a ^^^ x),
          (((((Keeps.refl _ w3).setCell (p := ⟨w.heap.size, 0, none⟩) (fun h => h rfl) _).setCell (p := ⟨w.heap.size, 1, none⟩) (fun h => h rfl) _).setCell (p := ⟨w.heap.size, 2, none⟩) (fun h => h rfl) _).setCell (p := ⟨w.heap.size, 3, none⟩) (fun h => h rfl) _).setCell (p := ⟨w.heap.size, 0, none⟩) (fun h => h rfl) _⟩
      obtain ⟨hn3, hk3⟩ := hfin _ rfl
      have hk4 := HkA.out.trans hk3
      go_roundw
      case rel =>
        refine ⟨k + 1, by omega, by go_num, ?_, hk4.ownsRow HO.out (fun j hj => by omega), Below.trans HX.out ((hk4.mono (K' := fun j => j < w.heap.size) (fun j _ hj => by omega)).below HX.out.size (fun j hj => hj))⟩
        rw [HW.out, HW2.out]
        exact hn3
      case measure => simp [intOf]; omega
    · obtain rfl : k = n + 1 := by omega
      have ht : xs.take (n + 1) = xs := List.take_of_length_le (by rw [HN.out]; exact Nat.le_refl _)
      rw [ht] at hb
      have hst := wordsM_ok xs Hok.out HLT.out
      obtain ⟨st, hste⟩ : ∃ st, wordsM s0 xs = st := ⟨_, rfl⟩
      rw [hste] at hb hst HS
      have CR := fun W => RRounds_any (endM st) 4 W (endM_ok hst) (by decide) (by decide)
      have HW2 : Hid (lastM st = roundsM 4 (endM st)) := Lib.hid rfl
      have hs2 : (roundsM 4 (endM st)).ok := roundsM_ok (endM_ok hst) 4
      obtain ⟨s2, hs2e⟩ : ∃ s2, roundsM 4 (endM st) = s2 := ⟨_, rfl⟩
      have h2 : (min (4 : Int) 64).toNat = 4 := rfl
      rw [h2, hs2e] at CR
      simp only [St.lit, endM] at CR
      have CR := Lib.hid CR
      rw [hs2e] at HW2 hs2
      have hx1 : Go.bits .xor .u64 (st.c : Int) 255 = ((st.c ^^^ 255 : Nat) : Int) := bits_xor_u64_nat st.c 255 hst.c (by decide)
      have y1 := xorM_lt hs2.a hs2.b
      have y2 := xorM_lt y1 hs2.c
      have hx2 := bits_xor_u64_nat s2.a s2.b hs2.a hs2.b
      have hx3 := bits_xor_u64_nat (s2.a ^^^ s2.b) s2.c y1 hs2.c
      have hx4 := bits_xor_u64_nat (s2.a ^^^ s2.b ^^^ s2.c) s2.d y2 hs2.d
      have c0 := hb.cell (i := 0) (x := st.a) rfl
      have c1 := hb.cell (i := 1) (x := st.b) rfl
      have c2 := hb.cell (i := 2) (x := st.c) rfl
      have c3 := hb.cell (i := 3) (x := st.d) rfl
      have f2 := hb.frozen 2
      have Hb1 : Hid (NumsAt (wr.setCell ⟨w.heap.size, 2, none⟩ (.int .u64 (st.c ^^^ 255 : Nat))) w.heap.size 119 (endM st).list) := Lib.hid (hb.set 2 (st.c ^^^ 255))
      clear hste hs2e h2 hb y1 y2 ht
      go_wp2_with fail
      refine (CR.out _).mono ?_
      rintro e w3 ⟨rfl, hxx⟩
      have hb3 := Hb1.out.keeps hxx.keeps trivial
      have hkA : Keeps (fun k => k ≠ w.heap.size) wr w3 := ((Keeps.refl _ wr).setCell (p := ⟨w.heap.size, 2, none⟩) (fun h => h rfl) _).trans (hxx.keeps.mono fun _ _ _ => trivial)
      have d0 := hb3.cell (i := 0) (x := st.a) rfl
      have d1 := hb3.cell (i := 1) (x := st.b) rfl
      have d2 := hb3.cell (i := 2) (x := st.c ^^^ 255) rfl
      have d3 := hb3.cell (i := 3) (x := st.d) rfl
      have e0 := hb3.frozen 0
      have e1 := hb3.frozen 1
      have e2 := hb3.frozen 2
      have e3 := hb3.frozen 3
      have HkA := Lib.hid hkA
      clear hb3 hkA hxx c0 c1 c2 c3 f2 CR
      go_wp2_with fail
      have hfin : ∀ W, W = (((w3.setCell ⟨w.heap.size, 0, none⟩ (.int .u64 (s2.a : Nat))).setCell ⟨w.heap.size, 1, none⟩ (.int .u64 (s2.b : Nat))).setCell ⟨w.heap.size, 2, none⟩ (.int .u64 (s2.c : Nat))).setCell ⟨w.heap.size, 3, none⟩ (.int .u64 (s2.d : Nat)) → Ext w W := by
        rintro W rfl
        have h1 := (((((HX.out.keeps.mono (K' := fun j => j < w.heap.size) (fun _ _ _ => trivial)).trans (HkA.out.mono (K' := fun j => j < w.heap.size) (fun j _ hj => by omega))).setCell (p := ⟨w.heap.size, 0, none⟩) (by simp) (.int .u64 (s2.a : Nat))).setCell (p := ⟨w.heap.size, 1, none⟩) (by simp) (.int .u64 (s2.b : Nat))).setCell (p := ⟨w.heap.size, 2, none⟩) (by simp) (.int .u64 (s2.c : Nat))).setCell (p := ⟨w.heap.size, 3, none⟩) (by simp) (.int .u64 (s2.d : Nat))
        exact h1.ext fun _ h => h
      have hx9 := hfin _ rfl
      go_ret2
      exact ⟨by rw [HS.out, HW2.out]; rfl, hx9⟩

set_option maxRecDepth 100000 in
set_option maxHeartbeats 1000000 in
theorem RSum_any (key s : ByteArray) (w : World) :
    Calls Try.prog 67 #[.string key, .string s] w fun e w' => e = .returned (.tuple (sumR key s)) ∧ Ext w w' := by
  unfold sumR
  by_cases hk : key.size = 16
  · by_cases hs : s.size ≤ 65536
    · rw [if_pos hk, if_pos hs]
      exact RSum_go key s w hk hs
    · rw [if_pos hk, if_neg hs]
      have h16 : ((key.size : Int) != 16) = false := by rw [hk]; rfl
      have h65 : decide ((65536 : Int) < (s.size : Int)) = true := decide_eq_true (by omega)
      clear hk
      go_enter Try.func67, Try.ntmps67
      go_wp2_with fail
      go_ret2
      exact ⟨rfl, Ext.refl _⟩
  · rw [if_neg hk]
    have h16 : ((key.size : Int) != 16) = true := by simp only [bne_iff_ne, ne_eq]; omega
    go_enter Try.func67, Try.ntmps67
    go_wp2_with fail
    go_ret2
    exact ⟨rfl, Ext.refl _⟩
end Go.Proofs.Ytjnaknfnoibncaa
