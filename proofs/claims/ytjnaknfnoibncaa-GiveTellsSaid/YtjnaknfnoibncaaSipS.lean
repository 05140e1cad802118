/- What the reference's Round, low, Value and Bytes do. Conditions: numbers of 64 bits. -/
import Derived.Test.YtjnaknfnoibncaaSipR
namespace Go.Proofs.Ytjnaknfnoibncaa
open Go Go.RowKit Go.Shelf
attribute [local go_sem] Oper.semAt_some wide_fn wide_depth

set_option maxRecDepth 100000 in
set_option maxHeartbeats 4000000 in
theorem RRounds_any (s : St) (n : Int) (w : World) (hs : s.ok) (hn : -9223372036854775808 ≤ n) (hn2 : n ≤ 9223372036854775807) :
    Calls Try.prog 89 #[s.lit, .int .i64 n] w fun e w' => e = .returned (roundsM (min n 64).toNat s).lit ∧ Ext w w' := by
  obtain ⟨M, hM⟩ : ∃ M : Nat, (min n 64).toNat = M := ⟨_, rfl⟩
  rw [hM]
  have hM1 : M ≤ 64 := by omega
  have CR := Lib.hid fun (k : Nat) W => RRound_any (roundsM k s) W (roundsM_ok hs k)
  have HM := Lib.hid hM
  clear hM hs
  go_enter Try.func89, Try.ntmps89
  simp only [St.lit]
  go_wp2
  obtain ⟨W, hW⟩ : ∃ W, (w.alloc (.cells #[.int .u64 s.a, .int .u64 s.b, .int .u64 s.c, .int .u64 s.d] 119)).alloc (.cells #[.int .u64 0, .int .u64 0, .int .u64 0, .int .u64 0] 119) = W := ⟨_, rfl⟩
  rw [hW]
  have h0 : NumsAt W w.heap.size 119 s.list := by
    rw [← hW]
    exact (NumsAt.new w _ s.list).keeps (K := fun _ => True) ((Keeps.refl _ _).alloc _) trivial
  have hz : NumsAt W (w.heap.size + 1) 119 [0, 0, 0, 0] := by
    have := NumsAt.new (w.alloc (.cells (encU s.list).toArray 119)) 119 [0, 0, 0, 0]
    simp only [World.size_alloc] at this
    rw [← hW]
    exact this
  have hx : Ext w W := by
    rw [← hW]
    exact ((Ext.refl w).alloc _).alloc _
  clear hW
  go_loopw [5] (fun i wr => ∃ k : Nat, k ≤ M ∧ i = .int .i64 k ∧ NumsAt wr w.heap.size 119 (roundsM k s).list ∧ NumsAt wr (w.heap.size + 1) 119 [0, 0, 0, 0] ∧ Ext w wr) (fun i _ => M - (intOf i).toNat)
  case atStart => exact ⟨0, Nat.zero_le _, rfl, h0, hz, hx⟩
  case round =>
    obtain ⟨k, hk, rfl, hs, hz, hx⟩ := hrel
    have HZ := Lib.hid hz
    have HX := Lib.hid hx
    have c0 := hs.cell (i := 0) (x := (roundsM k s).a) rfl
    have c1 := hs.cell (i := 1) (x := (roundsM k s).b) rfl
    have c2 := hs.cell (i := 2) (x := (roundsM k s).c) rfl
    have c3 := hs.cell (i := 3) (x := (roundsM k s).d) rfl
    have HS := Lib.hid hs
    clear hs hz hx h0
    by_cases hlt : k < M
    · have hkn : decide ((k : Int) < n) = true := decide_eq_true (by have := HM.out; omega)
      have hk64 : decide ((k : Int) < 64) = true := decide_eq_true (by omega)
      go_wp2_with fail
      refine (CR.out k _).mono ?_
      rintro e w1 ⟨rfl, hx1⟩
      have h1 := HS.out.keeps hx1.keeps trivial
      have d0 := h1.cell (i := 0) (x := (roundsM k s).a) rfl
      have d1 := h1.cell (i := 1) (x := (roundsM k s).b) rfl
      have d2 := h1.cell (i := 2) (x := (roundsM k s).c) rfl
      have d3 := h1.cell (i := 3) (x := (roundsM k s).d) rfl
      have e0 := h1.frozen 0
      have e1 := h1.frozen 1
      have e2 := h1.frozen 2
      have e3 := h1.frozen 3
      have H1 := Lib.hid h1
      have HX1 := Lib.hid hx1
      clear h1 hx1 c0 c1 c2 c3
      simp only [St.lit]
      go_wp2_with fail
      have hn1 : NumsAt _ w.heap.size 119 (roundsM (k + 1) s).list := (((H1.out.set 0 (roundsM (k + 1) s).a).set 1 (roundsM (k + 1) s).b).set 2 (roundsM (k + 1) s).c).set 3 (roundsM (k + 1) s).d
      have hk1 : ∀ K : Nat → Prop, ¬ K w.heap.size → Keeps K w1 _ := fun K h => ((((Keeps.refl K w1).setCell (p := ⟨w.heap.size, 0, none⟩) h (.int .u64 ((roundsM (k + 1) s).a : Nat))).setCell (p := ⟨w.heap.size, 1, none⟩) h (.int .u64 ((roundsM (k + 1) s).b : Nat))).setCell (p := ⟨w.heap.size, 2, none⟩) h (.int .u64 ((roundsM (k + 1) s).c : Nat))).setCell (p := ⟨w.heap.size, 3, none⟩) h (.int .u64 ((roundsM (k + 1) s).d : Nat))
      go_roundw
      case rel =>
        exact ⟨k + 1, by omega, by go_num, hn1, (HZ.out.keeps HX1.out.keeps trivial).keeps (hk1 (fun j => j ≠ w.heap.size) (fun h => h rfl)) (by omega),
          Below.trans (HX.out.trans HX1.out) ((hk1 (fun j => j < w.heap.size) (by omega)).below (HX.out.trans HX1.out).size (fun j hj => hj))⟩
      case measure => simp [intOf]; omega
    · obtain rfl : k = M := by omega
      have y0 := HZ.out.cell (i := 0) (x := 0) rfl
      have y1 := HZ.out.cell (i := 1) (x := 0) rfl
      have y2 := HZ.out.cell (i := 2) (x := 0) rfl
      have y3 := HZ.out.cell (i := 3) (x := 0) rfl
      have g0 := HZ.out.frozen 0
      have g1 := HZ.out.frozen 1
      have g2 := HZ.out.frozen 2
      have g3 := HZ.out.frozen 3
      have hfin : ∀ W, W = (((wr.setCell ⟨w.heap.size + 1, 0, none⟩ (.int .u64 ((roundsM k s).a : Nat))).setCell ⟨w.heap.size + 1, 1, none⟩ (.int .u64 ((roundsM k s).b : Nat))).setCell ⟨w.heap.size + 1, 2, none⟩ (.int .u64 ((roundsM k s).c : Nat))).setCell ⟨w.heap.size + 1, 3, none⟩ (.int .u64 ((roundsM k s).d : Nat)) →
          NumsAt W (w.heap.size + 1) 119 (roundsM k s).list ∧ Ext w W := by
        rintro W rfl
        exact ⟨(((HZ.out.set 0 (roundsM k s).a).set 1 (roundsM k s).b).set 2 (roundsM k s).c).set 3 (roundsM k s).d,
          Below.setCell (Below.setCell (Below.setCell (Below.setCell HX.out (p := ⟨w.heap.size + 1, 0, none⟩) (by simp) _) (p := ⟨w.heap.size + 1, 1, none⟩) (by simp) _) (p := ⟨w.heap.size + 1, 2, none⟩) (by simp) _) (p := ⟨w.heap.size + 1, 3, none⟩) (by simp) _⟩
      have HF := Lib.hid hfin
      clear hfin
      by_cases hkn : decide ((k : Int) < n) = true
      · have hk64 : decide ((k : Int) < 64) = false := decide_eq_false (by have := HM.out; have := of_decide_eq_true hkn; omega)
        go_wp2_with fail
        obtain ⟨hf, hx⟩ := HF.out _ rfl
        generalize World.setCell _ _ _ = W at hf hx ⊢
        refine bodyPost_ret (v := (roundsM k s).lit) ?_ rfl ⟨rfl, hx⟩
        exact results_cell_row (P := Try.prog) (fn := Try.f89) (p := 4) (ty := 119) rfl _ _ (w.heap.size + 1) _ (encU (roundsM k s).list).toArray _ _ rfl hf Try.underlying119 rfl (by kernel_rfl)
      · have hkn : decide ((k : Int) < n) = false := by simpa using hkn
        go_wp2_with fail
        obtain ⟨hf, hx⟩ := HF.out _ rfl
        generalize World.setCell _ _ _ = W at hf hx ⊢
        refine bodyPost_ret (v := (roundsM k s).lit) ?_ rfl ⟨rfl, hx⟩
        exact results_cell_row (P := Try.prog) (fn := Try.f89) (p := 4) (ty := 119) rfl _ _ (w.heap.size + 1) _ (encU (roundsM k s).list).toArray _ _ rfl hf Try.underlying119 rfl (by kernel_rfl)

theorem lowB_back (l : List UInt8) (j : Nat) (h : j < l.length) : lowB (l.drop j) = l[j].toNat + 256 * lowB (l.drop (j + 1)) := by
  rw [List.drop_eq_getElem_cons h, lowB]
set_option maxRecDepth 100000 in
set_option maxHeartbeats 1000000 in
theorem low_any (s : ByteArray) (w : World) (hs : s.size ≤ 8) :
    Calls Try.prog 87 #[.string s] w fun e w' => e = .returned (.int .u64 (lowB s.data.toList : Nat)) ∧ w = w' := by
  go_enter Try.func87, Try.ntmps87
  go_wp2
  go_loop [3, 4] (fun n i => ∃ j : Nat, j ≤ s.size ∧ i = .int .i64 ((j : Int) - 1) ∧ n = .int .u64 (lowB (s.data.toList.drop j) : Nat)) (fun _ i => (intOf i + 1).toNat)
  case atStart => exact ⟨s.size, Nat.le_refl _, rfl, by rw [List.drop_of_length_le (Nat.le_of_eq (len_list s))]; rfl⟩
  case round =>
    obtain ⟨j, hj, rfl, rfl⟩ := hrel
    by_cases h0 : 1 ≤ j
    · obtain ⟨i, rfl⟩ : ∃ i, j = i + 1 := ⟨j - 1, by omega⟩
      rw [show (((i + 1 : Nat) : Int) - 1) = (i : Int) by omega]
      have hlt : i < s.size := by omega
      have hb := s[i].toNat_lt
      have hbk := lowB_back s.data.toList i (by rw [len_list]; exact hlt)
      have hlt7 := lowB_lt7 (l := s.data.toList.drop (i + 1)) (by rw [List.length_drop, len_list]; omega)
      have hg : s.data.toList[i].toNat = s[i].toNat := rfl
      obtain ⟨v, hv⟩ : ∃ v, lowB (s.data.toList.drop (i + 1)) = v := ⟨_, rfl⟩
      obtain ⟨b, hbe⟩ : ∃ b, s[i].toNat = b := ⟨_, rfl⟩
      rw [hv] at hbk hlt7
      rw [hg, hbe] at hbk
      have hwb : IntKind.u64.wrap (s[i].toNat : Int) = (b : Int) := by rw [IntKind.wrap_u64]; omega
      have hw1 : IntKind.u64.wrap ((v : Int) * 256) = (v : Int) * 256 := by rw [IntKind.wrap_u64]; omega
      have hw2 : IntKind.u64.wrap ((v : Int) * 256 + (b : Int)) = ((b + 256 * v : Nat) : Int) := by rw [IntKind.wrap_u64]; omega
      rw [hv]
      have HBK := Lib.hid hbk
      clear hv hbk hb hg hbe hlt7 h0
      go_wp2
      go_round
      case rel => exact ⟨i, by omega, by simp, by rw [HBK.out, Int.natCast_add, Int.natCast_mul]; rfl⟩
      case measure => simp [intOf]
    · obtain rfl : j = 0 := by omega
      go_wp2
      go_ret
      exact ⟨rfl, rfl⟩

theorem infoU8 : (Try.prog.info? 5).map (fun i => (i.zero, i.size, i.bytes)) = some (some (.int .u8 0), 1, 1) := by kernel_rfl
set_option maxRecDepth 100000 in
set_option maxHeartbeats 1000000 in
theorem RBytes_any (n : Nat) (w : World) (hn : n < 18446744073709551616) :
    Calls Try.prog 37 #[.int .u64 (n : Nat)] w fun e w' => e = .returned (.string (bytesS n)) ∧ Ext w w' := by
  obtain ⟨i0, hi, hz0, hz1, hz2⟩ := info_parts infoU8
  go_enter Try.func37, Try.ntmps37
  go_wp2
  go_loopw [0, 3, 4] (fun q v i wr => ∃ k : Nat, k ≤ 8 ∧ i = .int .i64 k ∧ q = .int .u64 (n / 256 ^ k : Nat) ∧ wr.ownsRow w.heap.size 5 1 v k (encB (bytesM n k)) ∧ Ext w wr) (fun _ _ i _ => 8 - (intOf i).toNat)
  case atStart => exact ⟨0, Nat.zero_le _, rfl, by simp, World.ownsRow_nil _ _ _ _, Ext.refl _⟩
  case round =>
    obtain ⟨k, hk, rfl, rfl, hown, hx⟩ := hrel
    have hsz := hx.size
    have HX := Lib.hid hx
    clear hx
    by_cases hlt : k < 8
    · obtain ⟨m, hm⟩ : ∃ m, n / 256 ^ k = m := ⟨_, rfl⟩
      have hms : n / 256 ^ (k + 1) = m / 256 := by rw [Nat.pow_succ, ← Nat.div_div_eq_div_mul, hm]
      have hby : bytesM n (k + 1) = bytesM n k ++ [UInt8.ofNat (m % 256)] := by rw [bytesM, hm]
      have hbt : (UInt8.ofNat (m % 256)).toNat = m % 256 := by rw [UInt8.toNat_ofNat']; omega
      rw [hm]
      obtain ⟨l, hl⟩ : ∃ l, encB (bytesM n k) = l := ⟨_, rfl⟩
      rw [hl] at hown
      have HBY : Hid (encB (bytesM n (k + 1)) = l ++ [.int .u8 ((m : Int) % 256)]) := Lib.hid (by
        rw [hby, encB, List.map_append, ← hl, encB]
        simp only [List.map_cons, List.map_nil, hbt, Int.natCast_emod]
        rfl)
      have hle : m ≤ n := by rw [← hm]; exact Nat.div_le_self _ _
      have hwr : IntKind.u64.wrap ((m : Int) / 256) = ((m / 256 : Nat) : Int) := by rw [IntKind.wrap_u64]; omega
      have HMS := Lib.hid hms
      have HWR := Lib.hid hwr
      clear hby hbt hl hms hm hwr hle
      have hown2 := hown.alloc (.cells #[.int .u8 ((m : Int) % 256)] 5)
      have hbase : w.heap.size ≤ (wr.alloc (.cells #[.int .u8 ((m : Int) % 256)] 5)).heap.size := by simp; omega
      have Hown := Lib.hid hown
      clear hown
      go_wp2_with (at_builtin; refine wpList_append_own _ rfl _ _ 93 rfl w.heap.size 5 i0 (.int .u8 0) 1 1 Try.underlying93 hi hz0 hz1 hz2 rfl (by decide) _ _ _ rfl hown2 ⟨wr.heap.size, 0, none⟩ 1 1 [.int .u8 ((m : Int) % 256)] rfl rfl ?c1 ?c2 ?c3 ?c4 ?c5 ?_)
      case c1 =>
        intro j u hj
        match j, hj with
        | 0, hj => simp at hj; subst hj; simp [Addr.add]
      case c2 => intro u hu; simp at hu; subst hu; rfl
      case c3 => unfold maxLen; omega
      case c4 => omega
      case c5 => exact hbase
      intro v1 w3 hown' hgrow _
      obtain ⟨ao', cap', hv1⟩ := ownsRow_slice hown'
      subst hv1
      have hrow := hown2.lt
      have hk3 : Keeps (fun j => j < w.heap.size) wr w3 := ((Keeps.refl _ wr).alloc _).grown hgrow (fun j e h => by have := (hrow j e).1; omega)
      have Hown' := Lib.hid hown'
      have HX3 : Hid (Ext w w3) := Lib.hid (Below.trans HX.out (hk3.below hsz (fun j hj => hj)))
      clear hown' hgrow hrow hown2 hk3 hbase
      go_wp2_with fail
      go_roundw
      case rel => exact ⟨k + 1, by omega, by go_num, by rw [HMS.out, HWR.out], by rw [HBY.out]; exact Hown'.out, HX3.out⟩
      case measure => simp [intOf]; omega
    · obtain rfl : k = 8 := by omega
      obtain ⟨ao, cap, hv⟩ := ownsRow_slice hown
      subst hv
      have HC : Hid ((convert 93 9 (.slice ao 8 cap)).run Try.prog wr = .ok (.string (bytesS n)) wr) := Lib.hid (by
        obtain ⟨g, cap2, he⟩ := ownsRow_succ (k := 7) hown
        cases he
        refine run_convert_bytes_back wr 93 9 5 ⟨g, 0, none⟩ cap (bytesM n 8) Try.underlying93 Try.underlying5 Try.underlying9 (fun j hj => ?_)
        have hj' : j < (bytesM n 8).length := hj
        exact hown.cells (g := g) rfl j _ (by simp [encB, List.getElem?_eq_getElem hj']))
      have hc := HC.out
      go_wp2_with fail
      go_ret
      exact ⟨rfl, HX.out⟩
end Go.Proofs.Ytjnaknfnoibncaa
