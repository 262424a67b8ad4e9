/- PdNext, PdSpans, PdDrop, in one text. -/
import Derived.Test.YtlogapkpllgdcaaGreatDoorPdCk
import Derived.Test.YtlogapkpllgdcaaGreatDoorMa7
import Derived.Laws.Bits64b
import Derived.Test.YtlogapkpllgdcaaGreatDoorPdAp7
/- Contracts: TrailingZeros64; the next second. -/
namespace Go.Proofs.YtlogapkpllgdcaaGreatDoor
open Go.RowKit

def u64L (l : List Nat) : List Value := l.map fun (x : Nat) => .int .u64 (x : Int)
theorem u64L_get (L : List Nat) (k : Nat) (hk : k < L.length) : (u64L L).toArray[k]? = some (.int .u64 (L.getD k 0 : Nat)) := by
  unfold u64L
  rw [List.getElem?_toArray, List.getElem?_map, getD_some hk 0]
  rfl
theorem u64L_set (L : List Nat) (k x : Nat) : (u64L L).toArray.setIfInBounds k (.int .u64 x) = (u64L (L.set k x)).toArray := by
  unfold u64L
  simp [List.map_set]
/-- The table of trailing zeros. -/
def Tz (w : World) : Prop := ∀ j, j < 64 → w.cell? ⟨1, j, none⟩ = some (.int .u8 (Lib.deBruijn64tab.getD j 0 : Nat))
theorem Tz.below {w w' : World} (h : Tz w) (hb : Below w.heap.size w w') : Tz w' := fun j hj => cell_below (h j hj) hb
theorem tz_key (x a : Nat) (hx : x < 18446744073709551616) (hx0 : x ≠ 0) (hlow : x &&& (18446744073709551616 - x) = a) :
    IntKind.u64.wrap (bits BinOp.and IntKind.u64 (x : Int) (IntKind.u64.wrap (-(x : Int))) * 285870213051353865) / 288230376151711744 = ((a * 285870213051353865 % 18446744073709551616 / 288230376151711744 : Nat) : Int) := by
  have e1 : IntKind.u64.wrap (-(x : Int)) = ((18446744073709551616 - x : Nat) : Int) := by rw [IntKind.wrap_u64]; omega
  rw [e1, bits_and_u64_nat x _ hx (by omega), hlow, IntKind.wrap_u64]
  omega
set_option maxHeartbeats 1000000 in
theorem tz_core (x k idx : Nat) (w : World) (hx0 : ((x : Int) == 0) = false)
    (key : IntKind.u64.wrap (bits BinOp.and IntKind.u64 (x : Int) (IntKind.u64.wrap (-(x : Int))) * 285870213051353865) / 288230376151711744 = (idx : Int))
    (hi : idx < 64) (hk : k < 64) (hcell : w.cell? ⟨1, idx, none⟩ = some (.int .u8 k)) :
    Calls Tryz.prog 67 #[.int .u64 x] w fun e w' => e = .returned (.int .i64 k) ∧ w = w' := by
  go_enter Tryz.func67, Tryz.ntmps67
  go_wp2_with (simp only [key])
  go_ret
  exact ⟨rfl, rfl⟩
theorem tz_any (x : Nat) (w : World) (hx : x < 18446744073709551616) (hx0 : x ≠ 0) (hT : Tz w) :
    Calls Tryz.prog 67 #[.int .u64 x] w fun e w' => e = .returned (.int .i64 (Lib.ctz 64 x : Nat)) ∧ w = w' := by
  obtain ⟨hlow, hk⟩ := Lib.lowest_bit 64 x hx0 hx
  obtain ⟨hi, htab⟩ := Lib.deBruijn64_at _ hk
  have hcell := hT _ hi
  rw [htab] at hcell
  exact tz_core x _ _ w (by simp; omega) (tz_key x _ hx hx0 hlow) hi hk hcell
/-- The next second from k on that is there, or not. -/
def NextIs (f : Nat → Bool) (there : Bool) (k r : Nat) : Prop := k ≤ r ∧ r ≤ 86400 ∧ (∀ j, k ≤ j → j < r → f j = !there) ∧ (r < 86400 → f r = there)
/-- The word that is looked at: the bits that are there, or those that are not. -/
def look64 (there : Bool) (x : Nat) : Nat := if there = true then x else 18446744073709551615 - x
theorem look64_lt {there : Bool} {x : Nat} (hx : x < 18446744073709551616) : look64 there x < 18446744073709551616 := by unfold look64; split <;> omega
theorem look64_bit {there : Bool} {x i : Nat} (hx : x < 18446744073709551616) (hi : i < 64) : (look64 there x).testBit i = (x.testBit i == there) := by
  unfold look64
  cases there
  · rw [if_neg (by decide), tb_not hx hi]; cases x.testBit i <;> rfl
  · rw [if_pos rfl]; cases x.testBit i <;> rfl
theorem beq_not : ∀ a b : Bool, (a == b) = false → a = !b := by decide
theorem beq_yes : ∀ a b : Bool, (a == b) = true → a = b := by decide
theorem next_step {ws : List Nat} (hw : Words ws) (there : Bool) {q z : Nat} (hq : q < 86400) (hz : look64 there (ws.getD (q / 64) 0) / 2 ^ (q % 64) = z) :
    (z = 0 → ∀ j, q ≤ j → j < q + (64 - q % 64) → bit ws j = !there) ∧ (z ≠ 0 → NextIs (bit ws) there q (q + Lib.ctz 64 z) ∧ z < 18446744073709551616) := by
  have hx := hw.get (q / 64)
  have hbit : ∀ j, q ≤ j → j < q + (64 - q % 64) → z.testBit (j - q) = (bit ws j == there) := fun j h1 h2 => by
    have e1 : j / 64 = q / 64 := by omega
    have e2 : j - q + q % 64 = j % 64 := by omega
    rw [← hz, Nat.testBit_div_two_pow, e2, look64_bit hx (Nat.mod_lt _ (by decide))]
    unfold bit
    rw [e1]
  refine ⟨fun h0 j h1 h2 => ?_, fun h0 => ?_⟩
  · have := hbit j h1 h2
    rw [zero_bits h0] at this
    exact beq_not _ _ this.symm
  · have hlt : z < 18446744073709551616 := by rw [← hz]; exact Nat.lt_of_le_of_lt (Nat.div_le_self _ _) (look64_lt hx)
    obtain ⟨c1, c2, c3⟩ := ctz_low h0 hlt
    have hin : Lib.ctz 64 z + q % 64 < 64 := by
      rcases Nat.lt_or_ge (Lib.ctz 64 z + q % 64) 64 with h | h
      · exact h
      · rw [← hz, Nat.testBit_div_two_pow, hz, tb_big (look64_lt hx) h] at c2
        cases c2
    generalize Lib.ctz 64 z = r at *
    refine ⟨⟨by omega, by omega, fun j h1 h2 => ?_, fun _ => ?_⟩, hlt⟩
    · have h3 := hbit j h1 (by omega)
      rw [c3 (j - q) (by omega)] at h3
      exact beq_not _ _ h3.symm
    · have h3 := hbit (q + r) (by omega) (by omega)
      rw [show q + r - q = r by omega, c2] at h3
      exact beq_yes _ _ h3.symm
theorem xor_max (x : Nat) (hx : x < 18446744073709551616) : bits BinOp.xor IntKind.u64 IntKind.u64.max (x : Int) = ((18446744073709551615 - x : Nat) : Int) := by
  have h1 : BitVec.ofInt 64 IntKind.u64.max = BitVec.allOnes 64 := by decide
  have h2 : (BitVec.ofInt 64 (x : Int)).toNat = x := by
    rw [BitVec.ofInt_natCast, BitVec.toNat_ofNat]; exact Nat.mod_eq_of_lt (by omega)
  show IntKind.u64.wrap ((BitVec.ofInt 64 IntKind.u64.max ^^^ BitVec.ofInt 64 (x : Int)).toNat : Int) = _
  rw [h1, BitVec.allOnes_xor, BitVec.toNat_not, h2, IntKind.wrap_u64]
  omega
set_option maxRecDepth 100000 in
set_option maxHeartbeats 1000000 in
theorem next_any (b : Nat) (ws : List Nat) (there : Bool) (k : Nat) (w : World) (hT : Tz w) (hws : Words ws) (hb : w.heap[b]? = some (.cells (u64L ws).toArray 131 (0, 0))) (hk : k ≤ 86400) :
    Calls Tryz.prog 34 #[.slice (some ⟨b, 0, none⟩) 1350 1350, .int .i64 k, .bool there] w fun e w' => (∃ r : Nat, e = .returned (.int .i64 r) ∧ NextIs (bit ws) there k r) ∧ w = w' := by
  have HWS := Lib.hid hws
  have HB := Lib.hid hb
  have HT := Lib.hid hT
  clear hws hb hT
  cases there
  · go_enter Tryz.func34, Tryz.ntmps34
    go_wp2_with fail
    go_loop [1] (fun i => ∃ q : Nat, k ≤ q ∧ q ≤ 86400 ∧ i = .int .i64 q ∧ ∀ j, k ≤ j → j < q → bit ws j = !false) (fun i => 86400 - (intOf i).toNat)
    case atStart => exact ⟨k, Nat.le_refl _, hk, rfl, fun j h1 h2 => by omega⟩
    case round =>
      obtain ⟨q, hkq, hq, rfl, hsc⟩ := hrel
      have HSC := Lib.hid hsc
      clear hsc
      by_cases hlt : q < 86400
      · have hx := HWS.out.get (q / 64)
        have hc : w.cell? ⟨b, q / 64, none⟩ = some (.int .u64 (ws.getD (q / 64) 0 : Nat)) := cell_blk HB.out (q / 64) (u64L_get ws _ (by rw [HWS.out.1]; omega))
        have HST := Lib.hid (fun z hz => next_step HWS.out false (z := z) hlt hz)
        generalize ws.getD (q / 64) 0 = x at *
        obtain ⟨y, hy0⟩ : ∃ y, look64 false x = y := ⟨_, rfl⟩
        obtain ⟨z, hz0⟩ : ∃ z, y / 2 ^ (q % 64) = z := ⟨_, rfl⟩
        have HZ := Lib.hid (HST.out z (by rw [hy0, hz0]))
        have hy : bits BinOp.xor IntKind.u64 IntKind.u64.max (x : Int) = (y : Int) := by rw [xor_max x hx, ← hy0]; rfl
        have hy' : bits BinOp.xor IntKind.u64 (if IntKind.u64.signed = true then -1 else IntKind.u64.max) (x : Int) = (y : Int) := hy
        have hz : (y : Int) / 2 ^ (q % 64) = (z : Int) := by rw [← hz0]; simp
        clear hy0 hz0 hx HST
        by_cases h0 : z = 0
        · have ht : ((z : Int) != 0) = false := by subst h0; rfl
          go_wp2_with fail
          go_round
          case rel => exact ⟨q + (64 - q % 64), by omega, by omega, by go_num, fun j h1 h2 => by
            rcases Nat.lt_or_ge j q with h | h
            · exact HSC.out j h1 h
            · exact HZ.out.1 h0 j h h2⟩
          case measure => simp [intOf]; omega
        · have ht : ((z : Int) != 0) = true := by simp; omega
          obtain ⟨hn, hzl⟩ := HZ.out.2 h0
          have HN := Lib.hid hn
          have hr : q + Lib.ctz 64 z ≤ 86400 := hn.2.1
          clear hn
          go_wp2_with fail
          refine (tz_any z _ hzl h0 HT.out).mono ?_
          rintro e w' ⟨rfl, rfl⟩
          go_wp2_with fail
          go_ret
          exact ⟨⟨q + Lib.ctz 64 z, by go_num, Nat.le_trans hkq HN.out.1, hr, fun j h1 h2 => by
            rcases Nat.lt_or_ge j q with h | h
            · exact HSC.out j h1 h
            · exact HN.out.2.2.1 j h h2, HN.out.2.2.2⟩, rfl⟩
      · obtain rfl : q = 86400 := by omega
        go_wp2_with fail
        go_ret
        exact ⟨⟨86400, rfl, hk, Nat.le_refl _, HSC.out, fun h => by omega⟩, rfl⟩
  · go_enter Tryz.func34, Tryz.ntmps34
    go_wp2_with fail
    go_loop [1] (fun i => ∃ q : Nat, k ≤ q ∧ q ≤ 86400 ∧ i = .int .i64 q ∧ ∀ j, k ≤ j → j < q → bit ws j = !true) (fun i => 86400 - (intOf i).toNat)
    case atStart => exact ⟨k, Nat.le_refl _, hk, rfl, fun j h1 h2 => by omega⟩
    case round =>
      obtain ⟨q, hkq, hq, rfl, hsc⟩ := hrel
      have HSC := Lib.hid hsc
      clear hsc
      by_cases hlt : q < 86400
      · have hx := HWS.out.get (q / 64)
        have hc : w.cell? ⟨b, q / 64, none⟩ = some (.int .u64 (ws.getD (q / 64) 0 : Nat)) := cell_blk HB.out (q / 64) (u64L_get ws _ (by rw [HWS.out.1]; omega))
        have HST := Lib.hid (fun z hz => next_step HWS.out true (z := z) hlt hz)
        generalize ws.getD (q / 64) 0 = x at *
        obtain ⟨y, hy0⟩ : ∃ y, look64 true x = y := ⟨_, rfl⟩
        obtain ⟨z, hz0⟩ : ∃ z, y / 2 ^ (q % 64) = z := ⟨_, rfl⟩
        have HZ := Lib.hid (HST.out z (by rw [hy0, hz0]))
        have hy : x = y := hy0
        subst hy
        have hz : (x : Int) / 2 ^ (q % 64) = (z : Int) := by rw [← hz0]; simp
        clear hy0 hz0 hx HST
        by_cases h0 : z = 0
        · have ht : ((z : Int) != 0) = false := by subst h0; rfl
          go_wp2_with fail
          go_round
          case rel => exact ⟨q + (64 - q % 64), by omega, by omega, by go_num, fun j h1 h2 => by
            rcases Nat.lt_or_ge j q with h | h
            · exact HSC.out j h1 h
            · exact HZ.out.1 h0 j h h2⟩
          case measure => simp [intOf]; omega
        · have ht : ((z : Int) != 0) = true := by simp; omega
          obtain ⟨hn, hzl⟩ := HZ.out.2 h0
          have HN := Lib.hid hn
          have hr : q + Lib.ctz 64 z ≤ 86400 := hn.2.1
          clear hn
          go_wp2_with fail
          refine (tz_any z _ hzl h0 HT.out).mono ?_
          rintro e w' ⟨rfl, rfl⟩
          go_wp2_with fail
          go_ret
          exact ⟨⟨q + Lib.ctz 64 z, by go_num, Nat.le_trans hkq HN.out.1, hr, fun j h1 h2 => by
            rcases Nat.lt_or_ge j q with h | h
            · exact HSC.out j h1 h
            · exact HN.out.2.2.1 j h h2, HN.out.2.2.2⟩, rfl⟩
      · obtain rfl : q = 86400 := by omega
        go_wp2_with fail
        go_ret
        exact ⟨⟨86400, rfl, hk, Nat.le_refl _, HSC.out, fun h => by omega⟩, rfl⟩
end Go.Proofs.YtlogapkpllgdcaaGreatDoor
/- Contract: a day's seconds as spans. -/
namespace Go.Proofs.YtlogapkpllgdcaaGreatDoor
open Go.RowKit

/-- A value that holds the seconds of a day: none, or words. -/
def HSec (w : World) (v : Value) (f : Nat → Bool) : Prop :=
  (v = .slice none 0 0 ∧ ∀ j, j < 86400 → f j = false) ∨ ∃ b ws, v = .slice (some ⟨b, 0, none⟩) 1350 1350 ∧ w.heap[b]? = some (.cells (u64L ws).toArray 131 (0, 0)) ∧ Words ws ∧ ∀ j, j < 86400 → f j = bit ws j
theorem HSec.below {w w' : World} {v : Value} {f : Nat → Bool} (h : HSec w v f) (hb : Below w.heap.size w w') : HSec w' v f := by
  rcases h with h | ⟨b, ws, e, h1, h2, h3⟩
  · exact .inl h
  · exact .inr ⟨b, ws, e, (hb.block b (Array.getElem?_eq_some_iff.1 h1).1).trans h1, h2, h3⟩
set_option maxHeartbeats 400000 in
theorem next_nil (k : Nat) (there : Bool) (w : World) (hk : k ≤ 86400) :
    Calls Tryz.prog 34 #[.slice none 0 0, .int .i64 k, .bool there] w fun e w' => e = .returned (.int .i64 86400) ∧ w = w' := by
  go_enter Tryz.func34, Tryz.ntmps34
  go_wp2_with fail
  refine wp_loop_rounds 1 ?_
  rw [rounds_succ]
  go_wp2_with fail
  go_ret
  exact ⟨rfl, rfl⟩
/-- The next second that is there, of whatever seconds. -/
theorem next_sec (v : Value) (f : Nat → Bool) (k : Nat) (w : World) (hT : Tz w) (h : HSec w v f) (hk : k ≤ 86400) :
    Calls Tryz.prog 34 #[v, .int .i64 k, .bool true] w fun e w' => (∃ r : Nat, e = .returned (.int .i64 r) ∧ NextIs f true k r) ∧ w = w' := by
  rcases h with ⟨rfl, h⟩ | ⟨b, ws, rfl, h1, h2, h3⟩
  · exact (next_nil k true w hk).mono fun e w' ⟨he, hw⟩ => ⟨⟨86400, by rw [he]; rfl, hk, Nat.le_refl _, fun j _ h2 => h j h2, fun h => by omega⟩, hw⟩
  · refine (next_any b ws true k w hT h2 h1 hk).mono fun e w' ⟨⟨r, he, n1, n2, n3, n4⟩, hw⟩ => ⟨⟨r, he, n1, n2, fun j a b => ?_, fun a => ?_⟩, hw⟩
    · rw [h3 j (by omega)]; exact n3 j a b
    · rw [h3 r a]; exact n4 a
/-- What spans hands back. -/
def SpansOf (w : World) (f : Nat → Bool) (e : Ending) (w' : World) : Prop := ∃ v o, e = .returned v ∧ HSp w' v o ∧ Can (-1) o ∧ (∀ j, j < 86400 → f j = o.any fun s => inS s j) ∧ Below w.heap.size w w'
/-- What its loop keeps. -/
def SpansR (w : World) (f : Nat → Bool) (v : Value) (q : Nat) (W : World) : Prop :=
  ∃ (o : List Spn) (n : Nat), o.length = n ∧ n ≤ q ∧ Upq f o q ∧ (q < 86400 → f q = true) ∧ W.ownsRow w.heap.size 51 2 v n (o.flatMap spC) ∧ Below w.heap.size w W
set_option maxRecDepth 100000 in
set_option maxHeartbeats 2000000 in
theorem spans_words (b : Nat) (ws : List Nat) (w : World) (hT : Tz w) (hws : Words ws) (hb : w.heap[b]? = some (.cells (u64L ws).toArray 131 (0, 0))) :
    Calls Tryz.prog 38 #[.slice (some ⟨b, 0, none⟩) 1350 1350] w (SpansOf w (bit ws)) := by
  have hlt := (Array.getElem?_eq_some_iff.1 hb).1
  have HNX := Lib.hid (fun there k W (hW : Below w.heap.size w W) => next_any b ws there k W (hT.below hW) hws ((hW.block b hlt).trans hb))
  clear hT hws hb hlt
  go_enter Tryz.func38, Tryz.ntmps38
  go_wp2_with fail
  refine (HNX.out true 0 _ (Below.refl _ _) (by omega)).mono ?_
  rintro e w' ⟨⟨r0, rfl, hn0⟩, rfl⟩
  have HN0 := Lib.hid hn0
  clear hn0
  go_wp2_with fail
  go_loopw [3, 4] (fun v i wr => ∃ q : Nat, q ≤ 86400 ∧ i = .int .i64 q ∧ SpansR w (bit ws) v q wr) (fun _ i _ => 86400 - (intOf i).toNat)
  case atStart => exact ⟨r0, HN0.out.2.1, rfl, [], 0, rfl, Nat.zero_le _, Upq.start HN0.out.2.1 (fun j hj => HN0.out.2.2.1 j (Nat.zero_le _) hj), HN0.out.2.2.2, World.ownsRow_nil _ _ _ _, Below.refl _ _⟩
  case round =>
    obtain ⟨q, hq, rfl, o, n, hn, hnq, hup, hf, hown, hbw⟩ := hrel
    have HR := Lib.hid (And.intro hn (And.intro hup (And.intro hf (And.intro hown hbw))))
    clear hn hup hf hown hbw
    have HQ := Lib.hid hq
    clear hq
    by_cases hlt' : q < 86400
    · have hlt : (q : Int) < 86400 := by omega
      have HL := Lib.hid hlt'
      clear hlt'
      go_wp2_with fail
      refine (HNX.out false q _ HR.out.2.2.2.2 HQ.out).mono ?_
      rintro e w' ⟨⟨t, rfl, ht⟩, rfl⟩
      have HT1 := Lib.hid ht
      clear ht
      go_wp2_with
        (at_builtin
         refine wpList_appK rfl (.tmp 13) (.tmp 17) 44 rfl elS w.heap.size u3 n (o.flatMap spC) rfl (HR.out.2.2.2.1.alloc _) (some ⟨wr.heap.size, 0, none⟩) 1 1 (spC ⟨q, t⟩) rfl rfl (Rd.block (heap_alloc_new wr (.cells #[.int .i64 (q : Int), .int .i64 (t : Int)] 51))) (by intro u hu; simp only [spC, List.mem_cons, List.not_mem_nil, or_false] at hu; rcases hu with rfl | rfl <;> rfl) (by unfold maxLen; omega) (by omega) (by rw [World.size_alloc]; have := HR.out.2.2.2.2.size; omega) ?_)
      intro v' w' ho hg _
      have hbn : Below w.heap.size w w' := (HR.out.2.2.2.2.alloc HR.out.2.2.2.2.size _).grown hg (by rw [World.size_alloc]; have := HR.out.2.2.2.2.size; omega) (fun k hk => (HR.out.2.2.2.1.lt k hk).1)
      have HO := Lib.hid (And.intro ho hbn)
      clear ho hg hbn
      go_wp2_with fail
      refine (HNX.out true t _ HO.out.2 HT1.out.2.1).mono ?_
      rintro e w'' ⟨⟨r, rfl, hr⟩, rfl⟩
      have HR1 := Lib.hid hr
      clear hr
      go_wp2_with fail
      obtain ⟨a1, a2, a3, a4⟩ := HT1.out
      obtain ⟨b1, b2, b3, b4⟩ := HR1.out
      have hqt : q < t := by
        rcases Nat.lt_or_ge q t with h | h
        · exact h
        · have e : q = t := by omega
          have h1 := HR.out.2.2.1 HL.out
          rw [e, a4 (by omega)] at h1
          cases h1
      have HF := Lib.hid (show SpansR w (bit ws) v' r w' from ⟨o ++ [⟨q, t⟩], n + 1, by rw [List.length_append, HR.out.1]; rfl, by omega, HR.out.2.1.step HL.out (HR.out.2.2.1 HL.out) (by rcases HR.out.2.1.last with h | h; exact h; omega) a1 a2 (fun j x y => a3 j x y) a4 b1 b2 (fun j x y => b3 j x y) b4, b4, by rw [flat_snoc]; exact HO.out.1, HO.out.2⟩)
      have HB2 := Lib.hid b2
      have hqr : q < r := by omega
      clear a1 a2 a3 a4 b1 b2 b3 b4 hqt
      go_roundw
      case rel => exact ⟨r, HB2.out, rfl, HF.out⟩
      case measure => simp [intOf]; have := HL.out; omega
    · obtain rfl : q = 86400 := by have := HQ.out; omega
      clear hlt'
      go_wp2_with fail
      go_ret
      obtain ⟨A, c, e, h1, h2, h3, h4⟩ := ownsK_form HR.out.2.2.2.1
      exact ⟨_, o, rfl, by rw [show u3 = _ from e]; exact HSp.of_rd HR.out.1 h1 h2 h4, HR.out.2.1.can, HR.out.2.1.mem, HR.out.2.2.2.2⟩
/-- A day's seconds as spans, whatever they are. -/
theorem spans_any (v : Value) (f : Nat → Bool) (w : World) (hT : Tz w) (h : HSec w v f) : Calls Tryz.prog 38 #[v] w (SpansOf w f) := by
  rcases h with ⟨rfl, h⟩ | ⟨b, ws, rfl, h1, h2, h3⟩
  · have H : Hid (SpansOf w f (.returned (.slice none 0 0)) w) := ⟨_, [], rfl, ⟨none, 0, rfl, Nat.le_refl _, Nat.zero_le _, fun k hk => by cases hk⟩, trivial, fun j hj => by rw [h j hj]; rfl, Below.refl _ _⟩
    have HN := Lib.hid (next_nil 0 true w (by omega))
    clear h hT
    go_enter Tryz.func38, Tryz.ntmps38
    go_wp2_with fail
    refine HN.out.mono ?_
    rintro e w' ⟨rfl, rfl⟩
    go_wp2_with fail
    refine wp_loop_rounds 1 ?_
    rw [rounds_succ]
    go_wp2_with fail
    go_ret
    exact H.out
  · refine (spans_words b ws w hT h2 h1).mono fun e w' ⟨v, o, he, hs, hc, hm, hb⟩ => ⟨v, o, he, hs, hc, fun j hj => ?_, hb⟩
    rw [h3 j hj]; exact hm j hj
end Go.Proofs.YtlogapkpllgdcaaGreatDoor
/- Contract: drop: seconds that others have are taken out. -/
namespace Go.Proofs.YtlogapkpllgdcaaGreatDoor
open Go.RowKit

def diffN (x y : Nat) : Nat := x &&& (18446744073709551615 - y)
theorem diffN_lt {x y : Nat} (hx : x < 18446744073709551616) : diffN x y < 18446744073709551616 := Nat.lt_of_le_of_lt Nat.and_le_left hx
theorem diffN_bit {x y i : Nat} (hy : y < 18446744073709551616) (hi : i < 64) : (diffN x y).testBit i = (x.testBit i && !y.testBit i) := by
  unfold diffN
  rw [Nat.testBit_and, tb_not hy hi]
theorem andNot_u64 (x y : Nat) (hx : x < 18446744073709551616) (hy : y < 18446744073709551616) : bits BinOp.andNot IntKind.u64 (x : Int) (y : Int) = ((diffN x y : Nat) : Int) := by
  have h1 : (BitVec.ofInt 64 (x : Int)).toNat = x := by
    rw [BitVec.ofInt_natCast, BitVec.toNat_ofNat]; exact Nat.mod_eq_of_lt (by omega)
  have h2 : (BitVec.ofInt 64 (y : Int)).toNat = y := by
    rw [BitVec.ofInt_natCast, BitVec.toNat_ofNat]; exact Nat.mod_eq_of_lt (by omega)
  show IntKind.u64.wrap ((BitVec.ofInt 64 (x : Int) &&& ~~~ BitVec.ofInt 64 (y : Int)).toNat : Int) = _
  rw [BitVec.toNat_and, BitVec.toNat_not, h1, h2, IntKind.wrap_u64]
  have h3 := diffN_lt (y := y) hx
  unfold diffN at *
  rw [show (2 ^ 64 - 1 - y : Nat) = 18446744073709551615 - y from rfl]
  generalize x &&& (18446744073709551615 - y) = d at *
  omega
/-- Only one block has changed. -/
structure Only (bs : Nat) (w W : World) : Prop where
  below : Below bs w W
  size : W.heap.size = w.heap.size
  other : ∀ b, b ≠ bs → W.heap[b]? = w.heap[b]?
theorem Only.refl (bs : Nat) (w : World) : Only bs w w := ⟨Below.refl _ _, rfl, fun _ _ => rfl⟩
theorem Only.setCell {bs : Nat} {w W : World} (h : Only bs w W) (i : Nat) (v : Value) : Only bs w (W.setCell ⟨bs, i, none⟩ v) :=
  ⟨h.below.setCell (p := ⟨bs, i, none⟩) (Nat.le_refl _) _, by simpa using h.size, fun b hb => (heap_setCell_other W ⟨bs, i, none⟩ b v hb).trans (h.other b hb)⟩
/-- What drop ends with. -/
def Dropped (bs : Nat) (ws : List Nat) (g : Nat → Bool) (w : World) (W : World) : Prop :=
  ∃ ws2, W.heap[bs]? = some (.cells (u64L ws2).toArray 131 (0, 0)) ∧ Words ws2 ∧ (∀ j, j < 86400 → bit ws2 j = (bit ws j && !g j)) ∧ Only bs w W
/-- What its loop keeps: the first k words are done. -/
def DropR (bs : Nat) (ws ys : List Nat) (w : World) (k : Nat) (W : World) : Prop :=
  ∃ ws2, W.heap[bs]? = some (.cells (u64L ws2).toArray 131 (0, 0)) ∧ Words ws2 ∧ (∀ i, i < k → ws2.getD i 0 = diffN (ws.getD i 0) (ys.getD i 0)) ∧ (∀ i, k ≤ i → ws2.getD i 0 = ws.getD i 0) ∧ Only bs w W
set_option maxRecDepth 100000 in
set_option maxHeartbeats 1000000 in
theorem drop_words (bs bo : Nat) (ws ys : List Nat) (w : World) (hws : Words ws) (hys : Words ys) (hb : w.heap[bs]? = some (.cells (u64L ws).toArray 131 (0, 0))) (ho : w.heap[bo]? = some (.cells (u64L ys).toArray 131 (0, 0))) (hne : bo ≠ bs) :
    Calls Tryz.prog 66 #[.slice (some ⟨bs, 0, none⟩) 1350 1350, .slice (some ⟨bo, 0, none⟩) 1350 1350] w fun e W => e = .returned (.tuple #[]) ∧ DropR bs ws ys w 1350 W := by
  have HYS := Lib.hid hys
  have HO := Lib.hid ho
  have HNE := Lib.hid hne
  have H0 : Hid (DropR bs ws ys w 0 w) := ⟨ws, hb, hws, fun i h => by omega, fun _ _ => rfl, Only.refl _ _⟩
  clear hws hys hb ho hne
  go_enter Tryz.func66, Tryz.ntmps66
  go_wp2_with fail
  go_loopw [8] (fun i wr => ∃ k : Nat, k ≤ 1350 ∧ i = .int .i64 k ∧ DropR bs ws ys w k wr) (fun i _ => 1350 - (intOf i).toNat)
  case atStart => exact ⟨0, Nat.zero_le _, rfl, H0.out⟩
  case round =>
    obtain ⟨k, hk, rfl, ws2, h1, h2, h3, h4, h5⟩ := hrel
    have HR := Lib.hid (And.intro h3 (And.intro h4 h5))
    by_cases hlt : k < 1350
    · have c1 : wr.cell? ⟨bo, k, none⟩ = some (.int .u64 (ys.getD k 0 : Nat)) := cell_blk ((h5.other bo HNE.out).trans HO.out) k (u64L_get ys k (by rw [HYS.out.1]; exact hlt))
      have c2 : wr.cell? ⟨bs, k, none⟩ = some (.int .u64 (ws2.getD k 0 : Nat)) := cell_blk h1 k (u64L_get ws2 k (by rw [h2.1]; exact hlt))
      have c3 := frz_blk h1 k
      have hx := h2.get k
      have hy := HYS.out.get k
      have hst := heap_setCell_same wr bs k _ _ (.int .u64 (diffN (ws2.getD k 0) (ys.getD k 0) : Nat)) h1
      rw [u64L_set] at hst
      have HN : Hid (DropR bs ws ys w (k + 1) (wr.setCell ⟨bs, k, none⟩ (.int .u64 (diffN (ws2.getD k 0) (ys.getD k 0) : Nat)))) := by
        refine ⟨_, hst, h2.set k (diffN_lt hx), fun i hi => ?_, fun i hi => ?_, h5.setCell k _⟩
        · rw [getD_set (by rw [h2.1]; exact hlt)]
          split
          · rename_i e; rw [e, h4 k (Nat.le_refl _)]
          · exact h3 i (by omega)
        · rw [getD_set (by rw [h2.1]; exact hlt), if_neg (by omega)]
          exact h4 i (by omega)
      have hv := andNot_u64 _ _ hx hy
      generalize diffN (ws2.getD k 0) (ys.getD k 0) = d at *
      generalize ws2.getD k 0 = x at *
      generalize ys.getD k 0 = y at *
      clear h1 h2 h3 h4 h5 hst
      go_wp2_with fail
      go_roundw
      case rel => exact ⟨k + 1, by omega, by go_num, HN.out⟩
      case measure => simp [intOf]; omega
    · obtain rfl : k = 1350 := by omega
      have HF : Hid (DropR bs ws ys w 1350 wr) := ⟨ws2, h1, h2, h3, h4, h5⟩
      clear h1 h2 h3 h4 h5
      go_wp2_with fail
      go_end0
      exact ⟨rfl, HF.out⟩
set_option maxRecDepth 100000 in
theorem drop_any (bs : Nat) (ws : List Nat) (u : Value) (g : Nat → Bool) (w : World) (hws : Words ws) (hb : w.heap[bs]? = some (.cells (u64L ws).toArray 131 (0, 0))) (hu : HSec w u g) (hne : ∀ b, u = .slice (some ⟨b, 0, none⟩) 1350 1350 → b ≠ bs) :
    Calls Tryz.prog 66 #[.slice (some ⟨bs, 0, none⟩) 1350 1350, u] w fun e W => e = .returned (.tuple #[]) ∧ Dropped bs ws g w W := by
  rcases hu with ⟨rfl, hg⟩ | ⟨bo, ys, rfl, h1, h2, h3⟩
  · have HF : Hid (Dropped bs ws g w w) := ⟨ws, hb, hws, fun j hj => by rw [hg j hj]; simp, Only.refl _ _⟩
    clear hg hws hb hne
    go_enter Tryz.func66, Tryz.ntmps66
    go_wp2_with fail
    refine wp_loop_rounds 1 ?_
    rw [rounds_succ]
    go_wp2_with fail
    go_end0
    exact ⟨rfl, HF.out⟩
  · refine (drop_words bs bo ws ys w hws h2 hb h1 (hne bo rfl)).mono fun e W ⟨he, ws2, a1, a2, a3, a4, a5⟩ => ⟨he, ws2, a1, a2, fun j hj => ?_, a5⟩
    unfold bit
    rw [a3 (j / 64) (by omega), diffN_bit (h2.get _) (Nat.mod_lt _ (by decide)), h3 j hj]
    rfl
end Go.Proofs.YtlogapkpllgdcaaGreatDoor
