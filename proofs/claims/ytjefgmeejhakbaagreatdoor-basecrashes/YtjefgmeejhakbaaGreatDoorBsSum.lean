/- base's sum and number: of bytes. -/
import Derived.Test.YtjefgmeejhakbaaGreatDoorMgAA
import Derived.Laws.BitsAllLaws
namespace Go.Proofs.YtjefgmeejhakbaaGreatDoor
open Go.RowKit

/-- Bytes lie at ad. -/
def BytesAt (w : World) (ad : Option Addr) (l : List Int) : Prop := ∀ (i : Nat) (x : Int), l[i]? = some x → (0 ≤ x ∧ x < 256) ∧ ∃ g off, ad = some ⟨g, off, none⟩ ∧ w.cell? ⟨g, off + i, none⟩ = some (.int .u8 x)
def sumStep (s x : Int) : Int := IntKind.u64.wrap (IntKind.u64.wrap (IntKind.u64.wrap (s * 257) + x) + 1)
def sumP (l : List Int) : Int := l.foldl sumStep 0
theorem sumP_take {l : List Int} {i : Nat} {x : Int} (h : l[i]? = some x) : sumP (l.take (i + 1)) = sumStep (sumP (l.take i)) x := by
  rw [List.take_add_one, h]
  unfold sumP
  rw [List.foldl_append]
  rfl

set_option maxRecDepth 100000 in
set_option maxHeartbeats 400000 in
theorem bsum_any (ad : Option Addr) (cap : Nat) (l : List Int) (w : World) (hn : l.length ≤ 100000) (hA : BytesAt w ad l) :
    Calls Tryz.prog 158 #[.slice ad l.length cap] w fun e w' => e = .returned (.int .u64 (sumP l)) ∧ w' = w := by
  have HA := hid hA
  clear hA
  go_enter Tryz.func158, Tryz.ntmps158
  go_wp2
  go_loopw [3, 7] (fun sv iv wr => ∃ i : Nat, iv = .int .i64 i ∧ i ≤ l.length ∧ sv = .int .u64 (sumP (l.take i)) ∧ wr = w) (fun _ iv _ => l.length - (intOf iv).toNat)
  case atStart => exact ⟨0, rfl, Nat.zero_le _, rfl, rfl⟩
  case round =>
    obtain ⟨i, rfl, hi, rfl, rfl⟩ := hrel
    by_cases hlt : i < l.length
    · obtain ⟨x, hx⟩ : ∃ x, l[i]? = some x := ⟨_, List.getElem?_eq_getElem hlt⟩
      obtain ⟨hb, g, off, rfl, hc⟩ := HA.out i x hx
      have gi0 : (0 : Int) ≤ (i : Int) := by omega
      have gi1 : (i : Int) < (l.length : Int) := by omega
      have hstep := sumP_take hx
      go_wp2
      go_roundw
      case rel => exact ⟨i + 1, by go_num, by omega, by rw [hstep]; rfl, by first | rfl | trivial⟩
      case measure => simp [intOf]; omega
    · obtain rfl : i = l.length := by omega
      have gi1 : ¬ (l.length : Int) < (l.length : Int) := by omega
      go_wp2
      go_ret
      exact ⟨rfl, rfl⟩

/-! ### Numbers by their bytes -/
/-- What the first bytes come to. -/
def numN (l : List Int) : Nat → Nat
  | 0 => 0
  | i + 1 => numN l i + (l[i]?.getD 0).toNat * 2 ^ (8 * i)
theorem numN_lt {l : List Int} (h : ∀ x ∈ l, 0 ≤ x ∧ x < 256) : ∀ i, numN l i < 2 ^ (8 * i)
  | 0 => by simp [numN]
  | i + 1 => by
    have ih := numN_lt h i
    have hx : (l[i]?.getD 0).toNat ≤ 255 := by
      cases hl : l[i]? with
      | none => simp
      | some x => have := h x (List.mem_of_getElem? hl); simp; omega
    unfold numN
    rw [show 8 * (i + 1) = 8 * i + 8 by omega, Nat.pow_add]
    have := Nat.mul_le_mul_right (2 ^ (8 * i)) hx
    omega
theorem or_add (a b i : Nat) (h : a < 2 ^ i) : a ||| (b * 2 ^ i) = a + b * 2 ^ i := by
  rw [Nat.or_comm, ← Nat.shiftLeft_eq, ← Nat.shiftLeft_add_eq_or_of_lt h, Nat.shiftLeft_eq]
  omega
set_option maxRecDepth 100000 in
set_option maxHeartbeats 400000 in
theorem bnumber_any (ad : Option Addr) (n cap : Nat) (l : List Int) (w : World) (hn : 8 ≤ n) (hA : BytesAt w ad l) (hl : 8 ≤ l.length) :
    Calls Tryz.prog 209 #[.slice ad n cap] w fun e w' => e = .returned (.int .u64 (numN l 8 : Nat)) ∧ w' = w := by
  have hall : ∀ x ∈ l, 0 ≤ x ∧ x < 256 := fun x hx => by
    obtain ⟨i, hi, e⟩ := List.getElem_of_mem hx
    exact (hA i x (by rw [List.getElem?_eq_getElem hi, e])).1
  have HA := hid hA
  have HL := hid (numN_lt hall)
  clear hA hall
  go_enter Tryz.func209, Tryz.ntmps209
  go_wp2
  go_loopw [3, 5] (fun sv iv wr => ∃ i : Nat, iv = .int .i64 i ∧ i ≤ 8 ∧ sv = .int .u64 (numN l i : Nat) ∧ wr = w) (fun _ iv _ => 8 - (intOf iv).toNat)
  case atStart => exact ⟨0, rfl, Nat.zero_le _, rfl, rfl⟩
  case round =>
    obtain ⟨i, rfl, hi, rfl, rfl⟩ := hrel
    by_cases hlt : i < 8
    · obtain ⟨x, hx⟩ : ∃ x, l[i]? = some x := ⟨_, List.getElem?_eq_getElem (by omega)⟩
      obtain ⟨hb, g, off, rfl, hc⟩ := HA.out i x hx
      have gi0 : (0 : Int) ≤ (i : Int) := by omega
      have gi1 : (i : Int) < (n : Int) := by omega
      have gi8 : (i : Int) < 8 := by omega
      have gm : IntKind.i64.wrap (8 * (i : Int)) = 8 * (i : Int) := IntWalk.i64_in _ (by omega)
      have key : bits BinOp.or IntKind.u64 (numN l i : Nat) (IntKind.u64.wrap (x * 2 ^ (8 * i))) = ((numN l (i + 1) : Nat) : Int) := by
        have h1 := HL.out i
        have h3 : 2 ^ (8 * i) ≤ 2 ^ 56 := Nat.pow_le_pow_right (by decide) (by omega)
        have h4 := HL.out (i + 1)
        have h5 : 2 ^ (8 * (i + 1)) ≤ 2 ^ 64 := Nat.pow_le_pow_right (by decide) (by omega)
        obtain ⟨y, rfl⟩ := Int.eq_ofNat_of_zero_le hb.1
        have hy : y ≤ 255 := by omega
        have h6 : y * 2 ^ (8 * i) ≤ 255 * 2 ^ 56 := Nat.mul_le_mul hy h3
        have e1 : ((y : Int) * 2 ^ (8 * i)) = ((y * 2 ^ (8 * i) : Nat) : Int) := by simp
        have e2 : IntKind.u64.wrap ((y * 2 ^ (8 * i) : Nat) : Int) = ((y * 2 ^ (8 * i) : Nat) : Int) := IntWalk.u64_in _ (by omega)
        rw [e1, e2, u64_or_nat _ _ (by omega) (by omega), or_add _ _ _ h1, numN, hx]
        simp
      go_wp2
      go_roundw
      case rel => exact ⟨i + 1, by go_num, by omega, rfl, by first | rfl | trivial⟩
      case measure => simp [intOf]; omega
    · obtain rfl : i = 8 := by omega
      go_wp2
      go_ret
      exact ⟨rfl, rfl⟩

/-- A number's bytes, the lowest first. -/
def byteOf (n : Nat) (i : Nat) : Int := ((n / 2 ^ (8 * i) % 256 : Nat) : Int)
def bytesN (n : Nat) : Nat → List Int
  | 0 => []
  | i + 1 => bytesN n i ++ [byteOf n i]
theorem bytesN_len (n : Nat) : ∀ i, (bytesN n i).length = i
  | 0 => rfl
  | i + 1 => by unfold bytesN; rw [List.length_append, bytesN_len n i]; rfl
theorem bytesN_get (n : Nat) : ∀ (i j : Nat), j < i → (bytesN n i)[j]? = some (byteOf n j)
  | 0, j, h => by omega
  | i + 1, j, h => by
    unfold bytesN
    by_cases e : j < i
    · rw [List.getElem?_append_left (by rw [bytesN_len]; exact e), bytesN_get n i j e]
    · obtain rfl : j = i := by omega
      rw [List.getElem?_append_right (by rw [bytesN_len]; exact Nat.le_refl _), bytesN_len]
      simp
theorem byteOf_lt (n i : Nat) : 0 ≤ byteOf n i ∧ byteOf n i < 256 := by
  unfold byteOf
  have := Nat.mod_lt (n / 2 ^ (8 * i)) (show 0 < 256 by decide)
  omega
theorem bytesN_in (n : Nat) : ∀ i, ∀ x ∈ bytesN n i, 0 ≤ x ∧ x < 256 := fun i x hx => by
  obtain ⟨j, hj, e⟩ := List.getElem_of_mem hx
  have := bytesN_get n i j (by rw [bytesN_len] at hj; exact hj)
  rw [List.getElem?_eq_getElem hj, e] at this
  injection this with this
  rw [this]
  exact byteOf_lt n j
theorem numN_bytes (n : Nat) (r : List Int) : ∀ i, i ≤ 8 → numN (bytesN n 8 ++ r) i = n % 2 ^ (8 * i)
  | 0, _ => by simp [numN, Nat.mod_one]
  | i + 1, hi => by
    unfold numN
    rw [numN_bytes n r i (by omega), List.getElem?_append_left (by rw [bytesN_len]; omega), bytesN_get n 8 i (by omega)]
    simp only [Option.getD_some, byteOf, Int.toNat_natCast]
    rw [show 8 * (i + 1) = 8 * i + 8 by omega, Nat.pow_add, Nat.mod_mul, Nat.mul_comm (2 ^ (8 * i))]
/-- Behind a number's bytes stands what there was. -/
theorem number_bytes {n : Nat} (h : n < 2 ^ 64) (r : List Int) : numN (bytesN n 8 ++ r) 8 = n := by
  rw [numN_bytes n r 8 (Nat.le_refl _)]
  exact Nat.mod_eq_of_lt h
theorem info5 : (Tryz.prog.info? 5).map (fun i => (i.zero, i.size, i.bytes)) = some (some (.int .u8 0), 1, 1) := by kernel_rfl
def u8V (l : List Int) : List Value := l.map (Value.int .u8)
theorem u8V_get {l : List Int} {j : Nat} {x : Int} (h : l[j]? = some x) : (u8V l)[j]? = some (.int .u8 x) := by simp [u8V, h]
theorem u8V_append (l m : List Int) : u8V (l ++ m) = u8V l ++ u8V m := by simp [u8V]

set_option maxRecDepth 100000 in
set_option maxHeartbeats 400000 in
theorem appendNumber_any (v : Value) (l : List Int) (n base : Nat) (w : World) (hl : l.length ≤ 10000) (hb : base ≤ w.heap.size) (h : w.ownsRow base 5 1 v l.length (u8V l)) :
    Calls Tryz.prog 157 #[v, .int .u64 (n : Int)] w fun e w' => ∃ v', e = .returned v' ∧ w'.ownsRow base 5 1 v' (l ++ bytesN n 8).length (u8V (l ++ bytesN n 8)) ∧ Below base w w' := by
  obtain ⟨i0, hi0, hz0, hz1, hz2⟩ := info_parts info5
  have HO := hid h
  clear h
  go_enter Tryz.func157, Tryz.ntmps157
  go_wp2
  go_loopw [0, 6] (fun tv iv wr => ∃ i : Nat, iv = .int .i64 i ∧ i ≤ 8 ∧ Hid (wr.ownsRow base 5 1 tv (l ++ bytesN n i).length (u8V (l ++ bytesN n i)) ∧ Below base w wr)) (fun _ iv _ => 8 - (intOf iv).toNat)
  case atStart => exact ⟨0, rfl, Nat.zero_le _, by simpa [bytesN] using HO.out, Below.refl _ _⟩
  case round =>
    obtain ⟨i, rfl, hi, HX⟩ := hrel
    by_cases hlt : i < 8
    · have gi8 : (i : Int) < 8 := by omega
      have gm : IntKind.i64.wrap (8 * (i : Int)) = 8 * (i : Int) := IntWalk.i64_in _ (by omega)
      have hln : (l ++ bytesN n i).length = l.length + i := by rw [List.length_append, bytesN_len]
      have hln2 : (l ++ bytesN n (i + 1)).length = l.length + i + 1 := by rw [List.length_append, bytesN_len]; omega
      have hby : ((n : Int) / 2 ^ (8 * i) % 256) = byteOf n i := by
        unfold byteOf
        simp
      obtain ⟨y, hy⟩ : ∃ y, byteOf n i = y := ⟨_, rfl⟩
      have hst : Hid (u8V (l ++ bytesN n (i + 1)) = u8V (l ++ bytesN n i) ++ [.int .u8 y]) := by
        show _ = _
        rw [bytesN, ← List.append_assoc, u8V_append, hy]
        rfl
      rw [hy] at hby
      have HO2 := hid HX.out.1
      rw [hln] at HO2
      have HB2 := hid HX.out.2
      have hbs : base ≤ wr.heap.size := Nat.le_trans hb HX.out.2.size
      have HLN := hid hln2
      clear hln hln2 hy
      go_wp2_with (at_builtin; refine wpList_append_lies _ rfl _ _ _ rfl base 5 i0 _ 1 1 Tryz.underlying93 hi0 hz0 hz1 hz2 rfl (by omega) u0 _ _ rfl (HO2.out.alloc _) ⟨wr.heap.size, 0, none⟩ 1 1 [.int .u8 y] rfl rfl (World.news_of_block (cs := #[.int .u8 y]) (t := 5) (fr := (0, 0)) (heap_alloc_new wr _)) (by simp [Value.oneCell']) (by omega) (by unfold maxLen; omega) (by omega) (by simp; omega) (wr.heap.size + 1) (by simp) ?_; intro g' cap' w2 ho hgrow hat hlt2)
      go_roundw
      case rel =>
        refine ⟨i + 1, by go_num, by omega, ?_, ?_⟩
        · rw [hst.out, HLN.out]; exact ho
        · exact HB2.out.trans ((((Below.refl _ wr).alloc (Nat.le_refl _) _).mono hbs).grown hgrow (by simp; omega) (fun k e => (HO2.out.lt k e).1))
      case measure => simp [intOf]; omega
    · obtain rfl : i = 8 := by omega
      go_wp2
      go_ret
      exact ⟨_, rfl, HX.out⟩

end Go.Proofs.YtjefgmeejhakbaaGreatDoor
