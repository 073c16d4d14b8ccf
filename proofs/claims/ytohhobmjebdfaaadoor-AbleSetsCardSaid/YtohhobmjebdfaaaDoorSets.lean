/-
  AbleSets: whatever bits the sets have: each answer is the document's.
  CONDITIONS: the variable able.names holds what its text lays (the card ties that to the program's text).
-/
import Derived.Test.YtohhobmjebdfaaaDoorTab
import Derived.Test.YtohhobmjebdfaaaDoorLent
import Derived.Test.YtohhobmjebdfaaaDoorRef2
namespace Go.Proofs.YtohhobmjebdfaaaDoor
open Go.ChangeShapes Go.WideShapes Go.ChangeAt Go.RowKit

theorem cell_below {w w' : World} {a : Addr} {v : Value} (h : w.cell? a = some v) (hb : Below w.heap.size w w') : w'.cell? a = some v := (hb.cell (lt_of_cell h)).trans h
theorem place_n (a p : Nat) (o : Bool) (ha : a < 256) (hp : placeN a = p) (ho : oneN a = o) (w : World) :
    Calls Tryd.prog 11 #[.int .u8 (a : Int)] w fun e w' => e = .returned (.tuple #[.int .i64 (p : Int), .int .i64 (if o then 0 else 2)]) ∧ w = w' :=
  (place_w a w (by omega) (by omega)).mono fun _ _ h => ⟨by rw [h.1, Int.toNat_natCast, hp, ho], h.2⟩
theorem rplace_n (a p : Nat) (o : Bool) (ha : a < 256) (hp : placeN a = p) (ho : oneN a = o) (w : World) :
    Calls Tryd.prog 12 #[.int .u8 (a : Int)] w fun e w' => e = .returned (.tuple #[.int .i64 (p : Int), .bool o]) ∧ w = w' :=
  (rplace_w a ha w).mono fun _ _ h => ⟨by rw [h.1, hp, ho], h.2⟩
theorem text_y (a : Nat) (t : ByteArray) (ha : a < 64) (ht : textB a = t) (w : World) (hN : NamesAt w) :
    Calls Tryd.prog 13 #[.int .u8 (a : Int)] w fun e w' => e = .returned (.tuple #[.string t, .int .i64 0]) ∧ Below w.heap.size w w' :=
  (Text_w a w (by omega) (by omega) hN).mono fun _ _ h => ⟨by rw [h.1, if_pos (by omega), if_pos (by omega), Int.toNat_natCast, ht], h.2⟩
theorem text_n (a : Nat) (ha : a < 256) (h64 : 64 ≤ a) (w : World) (hN : NamesAt w) :
    Calls Tryd.prog 13 #[.int .u8 (a : Int)] w fun e w' => e = .returned (.tuple #[.string ⟨#[]⟩, .int .i64 2]) ∧ Below w.heap.size w w' :=
  (Text_w a w (by omega) (by omega) hN).mono fun _ _ h => ⟨by rw [h.1, if_neg (by omega), if_neg (by omega)], h.2⟩
theorem may_n (a : Nat) (m : Bool) (ha : a < 256) (hm : decide (a < 64) = m) (w : World) :
    Calls Tryd.prog 14 #[.int .u8 (a : Int)] w fun e w' => e = .returned (.bool m) ∧ w = w' :=
  (may_w a w (by omega) (by omega)).mono fun _ _ h => ⟨by rw [h.1, ← hm]; exact ret_bool (by rw [Bool.eq_iff_iff]; simp; omega), h.2⟩
theorem rmay_n (a : Nat) (m : Bool) (hm : decide (a < 64) = m) (w : World) :
    Calls Tryd.prog 15 #[.int .u8 (a : Int)] w fun e w' => e = .returned (.bool m) ∧ w = w' :=
  (rmay_w a w).mono fun _ _ h => ⟨by rw [h.1, hm], h.2⟩
theorem one_n (a : Nat) (o : Bool) (ha : a < 256) (ho : oneN a = o) (w : World) :
    Calls Tryd.prog 16 #[.int .u8 (a : Int)] w fun e w' => e = .returned (.bool o) ∧ w = w' :=
  (one_w a w (by omega) (by omega)).mono fun _ _ h => ⟨by rw [h.1, Int.toNat_natCast, ho], h.2⟩
theorem rone_n (a : Nat) (o : Bool) (ha : a < 256) (ho : oneN a = o) (w : World) :
    Calls Tryd.prog 17 #[.int .u8 (a : Int)] w fun e w' => e = .returned (.bool o) ∧ w = w' :=
  (rone_w a ha w).mono fun _ _ h => ⟨by rw [h.1, ho], h.2⟩
theorem count_n (a c : Nat) (ha : a < 256) (hc : countN a = c) (w : World) :
    Calls Tryd.prog 18 #[.int .u8 (a : Int)] w fun e w' => e = .returned (.int .i64 (c : Int)) ∧ w = w' :=
  (count_w a w (by omega) (by omega)).mono fun _ _ h => ⟨by rw [h.1, Int.toNat_natCast, hc], h.2⟩
theorem rcount_n (a c : Nat) (ha : a < 256) (hc : countN a = c) (w : World) :
    Calls Tryd.prog 19 #[.int .u8 (a : Int)] w fun e w' => e = .returned (.int .i64 (c : Int)) ∧ w = w' :=
  (rcount_w a ha w).mono fun _ _ h => ⟨by rw [h.1, hc], h.2⟩
theorem rtext_n (a : Nat) (t : ByteArray) (ha : a < 64) (ht : textB a = t) (w : World) :
    Calls Tryd.prog 20 #[.int .u8 (a : Int)] w fun e w' => e = .returned (.string t) ∧ Below w.heap.size w w' :=
  (rtext_w a ha w).mono fun _ _ h => ⟨by rw [h.1, ht], h.2⟩
theorem less_n (a b r : Nat) (ha : a < 256) (hb : b < 256) (hr : lessN a b = r) (w : World) :
    Calls Tryd.prog 26 #[.int .u8 (a : Int), .int .u8 (b : Int)] w fun e w' => e = .returned (.int .u8 (r : Int)) ∧ w = w' :=
  (less_w a b w (by omega) (by omega) (by omega) (by omega)).mono fun _ _ h => ⟨by rw [h.1, Int.toNat_natCast, Int.toNat_natCast, hr], h.2⟩
theorem rless_n (a b r : Nat) (ha : a < 256) (hb : b < 256) (hr : lessN a b = r) (w : World) :
    Calls Tryd.prog 27 #[.int .u8 (a : Int), .int .u8 (b : Int)] w fun e w' => e = .returned (.int .u8 (r : Int)) ∧ w = w' :=
  (rless_w a b ha hb w).mono fun _ _ h => ⟨by rw [h.1, hr], h.2⟩
theorem has_n (a b : Nat) (r : Bool) (ha : a < 256) (hb : b < 256) (hr : hasN a b = r) (w : World) :
    Calls Tryd.prog 28 #[.int .u8 (a : Int), .int .u8 (b : Int)] w fun e w' => e = .returned (.bool r) ∧ w = w' :=
  (has_w a b w (by omega) (by omega) (by omega) (by omega)).mono fun _ _ h => ⟨by rw [h.1, Int.toNat_natCast, Int.toNat_natCast, hr], h.2⟩
theorem rhas_n (a b : Nat) (r : Bool) (ha : a < 256) (hb : b < 256) (hr : hasN a b = r) (w : World) :
    Calls Tryd.prog 29 #[.int .u8 (a : Int), .int .u8 (b : Int)] w fun e w' => e = .returned (.bool r) ∧ w = w' :=
  (rhas_w a b ha hb w).mono fun _ _ h => ⟨by rw [h.1, hr], h.2⟩
theorem meet_n (pa : Option Addr) (cap : Nat) (xs : List Nat) (r : Nat) (hr : meetN xs = r) (hx : ∀ x ∈ xs, x < 256) (hl : xs.length ≤ 9223372036854775807) (w : World) (hc : LiesAt w pa xs) :
    Calls Tryd.prog 21 #[.slice pa xs.length cap] w fun e w' => e = .returned (.int .u8 (r : Int)) ∧ w = w' := hr ▸ meetA pa cap xs w hc hx hl
theorem rmeet_n (pa : Option Addr) (cap : Nat) (xs : List Nat) (r : Nat) (hr : meetN xs = r) (hx : ∀ x ∈ xs, x < 256) (hl : xs.length ≤ 9223372036854775807) (w : World) (hc : LiesAt w pa xs) :
    Calls Tryd.prog 22 #[.slice pa xs.length cap] w fun e w' => e = .returned (.int .u8 (r : Int)) ∧ w = w' := hr ▸ rmeet_w pa cap xs w hc hx hl
theorem join_n (pa : Option Addr) (cap : Nat) (xs : List Nat) (r : Nat) (hr : joinN xs % 64 = r) (hx : ∀ x ∈ xs, x < 256) (hl : xs.length ≤ 9223372036854775807) (w : World) (hc : LiesAt w pa xs) :
    Calls Tryd.prog 23 #[.slice pa xs.length cap] w fun e w' => e = .returned (.int .u8 (r : Int)) ∧ w = w' := hr ▸ joinA pa cap xs w hc hx hl
theorem rjoin_n (pa : Option Addr) (cap : Nat) (xs : List Nat) (r : Nat) (hr : joinN xs % 64 = r) (hx : ∀ x ∈ xs, x < 256) (hl : xs.length ≤ 9223372036854775807) (w : World) (hc : LiesAt w pa xs) :
    Calls Tryd.prog 24 #[.slice pa xs.length cap] w fun e w' => e = .returned (.int .u8 (r : Int)) ∧ w = w' := hr ▸ rjoin_w pa cap xs w hc hx hl

theorem below5 {w w1 w2 w3 w4 w5 : World} (h1 : Below w.heap.size w w1) (h2 : Below w1.heap.size w1 w2) (h3 : Below w2.heap.size w2 w3) (h4 : Below w3.heap.size w3 w4) (h5 : Below w4.heap.size w4 w5) : Below w.heap.size w w5 :=
  (((h1.trans (h2.mono h1.size)).trans (h3.mono (Nat.le_trans h1.size h2.size))).trans (h4.mono (Nat.le_trans h1.size (Nat.le_trans h2.size h3.size)))).trans (h5.mono (Nat.le_trans h1.size (Nat.le_trans h2.size (Nat.le_trans h3.size h4.size))))

set_option maxRecDepth 100000 in
set_option maxHeartbeats 4000000 in
theorem sets_one (a b p cn mt jn ls : Nat) (t : ByteArray) (hs : Bool) (pa : Option Addr) (cap : Nat) (xs : List Nat) (w : World) (ha : a < 256) (hb : b < 256) (h64 : a < 64) (Hp : Hid (placeN a = p)) (Ho : Hid (oneN a = true)) (Hm : Hid (decide (a < 64) = true)) (Hc : Hid (countN a = cn)) (Hmt : Hid (meetN xs = mt)) (Hjn : Hid (joinN xs % 64 = jn)) (Hls : Hid (lessN a b = ls)) (Hhs : Hid (hasN a b = hs)) (Ht : Hid (textB a = t))
    (hl : LiesAt w pa xs) (hn : pa = none → xs = [] ∧ cap = 0) (hx : ∀ x ∈ xs, x < 256) (hlen : xs.length ≤ 140737488351232) (hN : NamesAt w) :
    Calls Tryd.prog 3 #[.int .u8 (a : Int), .int .u8 (b : Int), .slice pa xs.length cap] w fun e W' => e = .returned (.bool true) ∧ Below w.heap.size w W' := by
  go_enter Tryd.func3, Tryd.ntmps3
  go_wp2_with fail
  refine (lent_w pa cap xs _ hl hn (by omega)).mono ?_
  rintro e w1 ⟨v, rfl, hv⟩
  obtain ⟨g, cap2, rfl, hg, hx1, h77, h78, hc2, hmax, hb1⟩ := hv.row
  have hl1 := hl.below hb1
  have hN1 := hN.below hb1 hN.size
  have H77 := Lib.hid h77
  have H78 := Lib.hid h78
  clear h77 h78 hv hl hN
  go_wp2_with fail
  refine (place_n a p _ ha Hp.out Ho.out _).mono ?_
  rintro e w' ⟨rfl, rfl⟩
  go_wp2_with fail
  refine (rplace_n a p _ ha Hp.out Ho.out _).mono ?_
  rintro e w' ⟨rfl, rfl⟩
  go_wp2_with fail
  refine (text_y a t h64 Ht.out _ hN1).mono ?_
  rintro e w2 ⟨rfl, hb2⟩
  have hl2 := hl1.below hb2
  have hx2 := hx1.below hb2
  have hN2 := hN1.below hb2 hN1.size
  have H77b := Lib.hid (cell_below H77.out hb2)
  have H78b := Lib.hid (cell_below H78.out hb2)
  have hg2 := Nat.lt_of_lt_of_le hg hb2.size
  clear hl1 hx1 hN1 H77 H78 hg
  go_wp2_with fail
  refine (may_n a _ ha Hm.out _).mono ?_
  rintro e w' ⟨rfl, rfl⟩
  go_wp2_with fail
  refine (rmay_n a _ Hm.out _).mono ?_
  rintro e w' ⟨rfl, rfl⟩
  go_wp2_with fail
  refine (one_n a _ ha Ho.out _).mono ?_
  rintro e w' ⟨rfl, rfl⟩
  go_wp2_with fail
  refine (rone_n a _ ha Ho.out _).mono ?_
  rintro e w' ⟨rfl, rfl⟩
  go_wp2_with fail
  refine (count_n a cn ha Hc.out _).mono ?_
  rintro e w' ⟨rfl, rfl⟩
  go_wp2_with fail
  refine (rcount_n a cn ha Hc.out _).mono ?_
  rintro e w' ⟨rfl, rfl⟩
  go_wp2_with fail
  refine (rmay_n a _ Hm.out _).mono ?_
  rintro e w' ⟨rfl, rfl⟩
  go_wp2_with fail
  refine (rtext_n a t h64 Ht.out _).mono ?_
  rintro e w3 ⟨rfl, hb3⟩
  have hl3 := hl2.below hb3
  have hx3 := hx2.below hb3
  have hN3 := hN2.below hb3 hN2.size
  have H77c := Lib.hid (cell_below H77b.out hb3)
  have H78c := Lib.hid (cell_below H78b.out hb3)
  have hg3 := Nat.lt_of_lt_of_le hg2 hb3.size
  clear hl2 hx2 hN2 H77b H78b hg2
  go_wp2_with fail
  refine (rmay_n a _ Hm.out _).mono ?_
  rintro e w' ⟨rfl, rfl⟩
  go_wp2_with fail
  refine (meet_n _ cap2 xs mt Hmt.out hx (by omega) _ hx3.at).mono ?_
  rintro e w' ⟨rfl, rfl⟩
  go_wp2_with fail
  refine (rmeet_n _ cap xs mt Hmt.out hx (by omega) _ hl3).mono ?_
  rintro e w' ⟨rfl, rfl⟩
  go_wp2_with fail
  refine (join_n _ cap2 xs jn Hjn.out hx (by omega) _ hx3.at).mono ?_
  rintro e w' ⟨rfl, rfl⟩
  go_wp2_with fail
  refine (rjoin_n _ cap xs jn Hjn.out hx (by omega) _ hl3).mono ?_
  rintro e w' ⟨rfl, rfl⟩
  go_wp2_with fail
  refine (kept_w g 0 cap2 cap pa xs _ hg3 hx3 H77c.out H78c.out hl3 hc2 hmax).mono ?_
  rintro e w4 ⟨rfl, hb4⟩
  go_wp2_with fail
  refine (less_n a b ls ha hb Hls.out _).mono ?_
  rintro e w' ⟨rfl, rfl⟩
  go_wp2_with fail
  refine (rless_n a b ls ha hb Hls.out _).mono ?_
  rintro e w' ⟨rfl, rfl⟩
  go_wp2_with fail
  refine (has_n a b hs ha hb Hhs.out _).mono ?_
  rintro e w' ⟨rfl, rfl⟩
  go_wp2_with fail
  refine (rhas_n a b hs ha hb Hhs.out _).mono ?_
  rintro e w' ⟨rfl, rfl⟩
  go_wp2_with fail
  refine (lives_w _ (hN3.below hb4 hN3.size)).mono ?_
  rintro e w5 ⟨rfl, hb5⟩
  go_wp2
  go_ret
  exact ⟨rfl, below5 hb1 hb2 hb3 hb4 hb5⟩

set_option maxRecDepth 100000 in
set_option maxHeartbeats 4000000 in
theorem sets_many (a b p cn mt jn ls : Nat) (t : ByteArray) (hs : Bool) (pa : Option Addr) (cap : Nat) (xs : List Nat) (w : World) (ha : a < 256) (hb : b < 256) (h64 : a < 64) (Hp : Hid (placeN a = p)) (Ho : Hid (oneN a = false)) (Hm : Hid (decide (a < 64) = true)) (Hc : Hid (countN a = cn)) (Hmt : Hid (meetN xs = mt)) (Hjn : Hid (joinN xs % 64 = jn)) (Hls : Hid (lessN a b = ls)) (Hhs : Hid (hasN a b = hs)) (Ht : Hid (textB a = t))
    (hl : LiesAt w pa xs) (hn : pa = none → xs = [] ∧ cap = 0) (hx : ∀ x ∈ xs, x < 256) (hlen : xs.length ≤ 140737488351232) (hN : NamesAt w) :
    Calls Tryd.prog 3 #[.int .u8 (a : Int), .int .u8 (b : Int), .slice pa xs.length cap] w fun e W' => e = .returned (.bool true) ∧ Below w.heap.size w W' := by
  go_enter Tryd.func3, Tryd.ntmps3
  go_wp2_with fail
  refine (lent_w pa cap xs _ hl hn (by omega)).mono ?_
  rintro e w1 ⟨v, rfl, hv⟩
  obtain ⟨g, cap2, rfl, hg, hx1, h77, h78, hc2, hmax, hb1⟩ := hv.row
  have hl1 := hl.below hb1
  have hN1 := hN.below hb1 hN.size
  have H77 := Lib.hid h77
  have H78 := Lib.hid h78
  clear h77 h78 hv hl hN
  go_wp2_with fail
  refine (place_n a p _ ha Hp.out Ho.out _).mono ?_
  rintro e w' ⟨rfl, rfl⟩
  go_wp2_with fail
  refine (rplace_n a p _ ha Hp.out Ho.out _).mono ?_
  rintro e w' ⟨rfl, rfl⟩
  go_wp2_with fail
  refine (text_y a t h64 Ht.out _ hN1).mono ?_
  rintro e w2 ⟨rfl, hb2⟩
  have hl2 := hl1.below hb2
  have hx2 := hx1.below hb2
  have hN2 := hN1.below hb2 hN1.size
  have H77b := Lib.hid (cell_below H77.out hb2)
  have H78b := Lib.hid (cell_below H78.out hb2)
  have hg2 := Nat.lt_of_lt_of_le hg hb2.size
  clear hl1 hx1 hN1 H77 H78 hg
  go_wp2_with fail
  refine (may_n a _ ha Hm.out _).mono ?_
  rintro e w' ⟨rfl, rfl⟩
  go_wp2_with fail
  refine (rmay_n a _ Hm.out _).mono ?_
  rintro e w' ⟨rfl, rfl⟩
  go_wp2_with fail
  refine (one_n a _ ha Ho.out _).mono ?_
  rintro e w' ⟨rfl, rfl⟩
  go_wp2_with fail
  refine (rone_n a _ ha Ho.out _).mono ?_
  rintro e w' ⟨rfl, rfl⟩
  go_wp2_with fail
  refine (count_n a cn ha Hc.out _).mono ?_
  rintro e w' ⟨rfl, rfl⟩
  go_wp2_with fail
  refine (rcount_n a cn ha Hc.out _).mono ?_
  rintro e w' ⟨rfl, rfl⟩
  go_wp2_with fail
  refine (rmay_n a _ Hm.out _).mono ?_
  rintro e w' ⟨rfl, rfl⟩
  go_wp2_with fail
  refine (rtext_n a t h64 Ht.out _).mono ?_
  rintro e w3 ⟨rfl, hb3⟩
  have hl3 := hl2.below hb3
  have hx3 := hx2.below hb3
  have hN3 := hN2.below hb3 hN2.size
  have H77c := Lib.hid (cell_below H77b.out hb3)
  have H78c := Lib.hid (cell_below H78b.out hb3)
  have hg3 := Nat.lt_of_lt_of_le hg2 hb3.size
  clear hl2 hx2 hN2 H77b H78b hg2
  go_wp2_with fail
  refine (rmay_n a _ Hm.out _).mono ?_
  rintro e w' ⟨rfl, rfl⟩
  go_wp2_with fail
  refine (meet_n _ cap2 xs mt Hmt.out hx (by omega) _ hx3.at).mono ?_
  rintro e w' ⟨rfl, rfl⟩
  go_wp2_with fail
  refine (rmeet_n _ cap xs mt Hmt.out hx (by omega) _ hl3).mono ?_
  rintro e w' ⟨rfl, rfl⟩
  go_wp2_with fail
  refine (join_n _ cap2 xs jn Hjn.out hx (by omega) _ hx3.at).mono ?_
  rintro e w' ⟨rfl, rfl⟩
  go_wp2_with fail
  refine (rjoin_n _ cap xs jn Hjn.out hx (by omega) _ hl3).mono ?_
  rintro e w' ⟨rfl, rfl⟩
  go_wp2_with fail
  refine (kept_w g 0 cap2 cap pa xs _ hg3 hx3 H77c.out H78c.out hl3 hc2 hmax).mono ?_
  rintro e w4 ⟨rfl, hb4⟩
  go_wp2_with fail
  refine (less_n a b ls ha hb Hls.out _).mono ?_
  rintro e w' ⟨rfl, rfl⟩
  go_wp2_with fail
  refine (rless_n a b ls ha hb Hls.out _).mono ?_
  rintro e w' ⟨rfl, rfl⟩
  go_wp2_with fail
  refine (has_n a b hs ha hb Hhs.out _).mono ?_
  rintro e w' ⟨rfl, rfl⟩
  go_wp2_with fail
  refine (rhas_n a b hs ha hb Hhs.out _).mono ?_
  rintro e w' ⟨rfl, rfl⟩
  go_wp2_with fail
  refine (lives_w _ (hN3.below hb4 hN3.size)).mono ?_
  rintro e w5 ⟨rfl, hb5⟩
  go_wp2
  go_ret
  exact ⟨rfl, below5 hb1 hb2 hb3 hb4 hb5⟩

set_option maxRecDepth 100000 in
set_option maxHeartbeats 4000000 in
theorem sets_beyond (a b p cn mt jn ls : Nat) (t : ByteArray) (hs : Bool) (pa : Option Addr) (cap : Nat) (xs : List Nat) (w : World) (ha : a < 256) (hb : b < 256) (h64 : 64 ≤ a) (Hp : Hid (placeN a = p)) (Ho : Hid (oneN a = false)) (Hm : Hid (decide (a < 64) = false)) (Hc : Hid (countN a = cn)) (Hmt : Hid (meetN xs = mt)) (Hjn : Hid (joinN xs % 64 = jn)) (Hls : Hid (lessN a b = ls)) (Hhs : Hid (hasN a b = hs)) (_Ht : Hid (textB a = t))
    (hl : LiesAt w pa xs) (hn : pa = none → xs = [] ∧ cap = 0) (hx : ∀ x ∈ xs, x < 256) (hlen : xs.length ≤ 140737488351232) (hN : NamesAt w) :
    Calls Tryd.prog 3 #[.int .u8 (a : Int), .int .u8 (b : Int), .slice pa xs.length cap] w fun e W' => e = .returned (.bool true) ∧ Below w.heap.size w W' := by
  go_enter Tryd.func3, Tryd.ntmps3
  go_wp2_with fail
  refine (lent_w pa cap xs _ hl hn (by omega)).mono ?_
  rintro e w1 ⟨v, rfl, hv⟩
  obtain ⟨g, cap2, rfl, hg, hx1, h77, h78, hc2, hmax, hb1⟩ := hv.row
  have hl1 := hl.below hb1
  have hN1 := hN.below hb1 hN.size
  have H77 := Lib.hid h77
  have H78 := Lib.hid h78
  clear h77 h78 hv hl hN
  go_wp2_with fail
  refine (place_n a p _ ha Hp.out Ho.out _).mono ?_
  rintro e w' ⟨rfl, rfl⟩
  go_wp2_with fail
  refine (rplace_n a p _ ha Hp.out Ho.out _).mono ?_
  rintro e w' ⟨rfl, rfl⟩
  go_wp2_with fail
  refine (text_n a ha h64 _ hN1).mono ?_
  rintro e w2 ⟨rfl, hb2⟩
  have hl2 := hl1.below hb2
  have hx2 := hx1.below hb2
  have hN2 := hN1.below hb2 hN1.size
  have H77b := Lib.hid (cell_below H77.out hb2)
  have H78b := Lib.hid (cell_below H78.out hb2)
  have hg2 := Nat.lt_of_lt_of_le hg hb2.size
  clear hl1 hx1 hN1 H77 H78 hg
  go_wp2_with fail
  refine (may_n a _ ha Hm.out _).mono ?_
  rintro e w' ⟨rfl, rfl⟩
  go_wp2_with fail
  refine (rmay_n a _ Hm.out _).mono ?_
  rintro e w' ⟨rfl, rfl⟩
  go_wp2_with fail
  refine (one_n a _ ha Ho.out _).mono ?_
  rintro e w' ⟨rfl, rfl⟩
  go_wp2_with fail
  refine (rone_n a _ ha Ho.out _).mono ?_
  rintro e w' ⟨rfl, rfl⟩
  go_wp2_with fail
  refine (count_n a cn ha Hc.out _).mono ?_
  rintro e w' ⟨rfl, rfl⟩
  go_wp2_with fail
  refine (rcount_n a cn ha Hc.out _).mono ?_
  rintro e w' ⟨rfl, rfl⟩
  go_wp2_with fail
  refine (rmay_n a _ Hm.out _).mono ?_
  rintro e w' ⟨rfl, rfl⟩
  obtain ⟨w3, hw3⟩ : ∃ w3, w3 = w2 := ⟨_, rfl⟩
  have hb3 : Below w2.heap.size w2 w3 := hw3 ▸ Below.refl _ _
  rw [← hw3]
  have hl3 := hl2.below hb3
  have hx3 := hx2.below hb3
  have hN3 := hN2.below hb3 hN2.size
  have H77c := Lib.hid (cell_below H77b.out hb3)
  have H78c := Lib.hid (cell_below H78b.out hb3)
  have hg3 := Nat.lt_of_lt_of_le hg2 hb3.size
  clear hl2 hx2 hN2 H77b H78b hg2 hw3
  go_wp2_with fail
  refine (rmay_n a _ Hm.out _).mono ?_
  rintro e w' ⟨rfl, rfl⟩
  go_wp2_with fail
  refine (meet_n _ cap2 xs mt Hmt.out hx (by omega) _ hx3.at).mono ?_
  rintro e w' ⟨rfl, rfl⟩
  go_wp2_with fail
  refine (rmeet_n _ cap xs mt Hmt.out hx (by omega) _ hl3).mono ?_
  rintro e w' ⟨rfl, rfl⟩
  go_wp2_with fail
  refine (join_n _ cap2 xs jn Hjn.out hx (by omega) _ hx3.at).mono ?_
  rintro e w' ⟨rfl, rfl⟩
  go_wp2_with fail
  refine (rjoin_n _ cap xs jn Hjn.out hx (by omega) _ hl3).mono ?_
  rintro e w' ⟨rfl, rfl⟩
  go_wp2_with fail
  refine (kept_w g 0 cap2 cap pa xs _ hg3 hx3 H77c.out H78c.out hl3 hc2 hmax).mono ?_
  rintro e w4 ⟨rfl, hb4⟩
  go_wp2_with fail
  refine (less_n a b ls ha hb Hls.out _).mono ?_
  rintro e w' ⟨rfl, rfl⟩
  go_wp2_with fail
  refine (rless_n a b ls ha hb Hls.out _).mono ?_
  rintro e w' ⟨rfl, rfl⟩
  go_wp2_with fail
  refine (has_n a b hs ha hb Hhs.out _).mono ?_
  rintro e w' ⟨rfl, rfl⟩
  go_wp2_with fail
  refine (rhas_n a b hs ha hb Hhs.out _).mono ?_
  rintro e w' ⟨rfl, rfl⟩
  go_wp2_with fail
  refine (lives_w _ (hN3.below hb4 hN3.size)).mono ?_
  rintro e w5 ⟨rfl, hb5⟩
  go_wp2
  go_ret
  exact ⟨rfl, below5 hb1 hb2 hb3 hb4 hb5⟩

theorem sets_all (a b : Nat) (pa : Option Addr) (cap : Nat) (xs : List Nat) (w : World) (ha : a < 256) (hb : b < 256) (hl : LiesAt w pa xs) (hn : pa = none → xs = [] ∧ cap = 0) (hx : ∀ x ∈ xs, x < 256) (hlen : xs.length ≤ 140737488351232) (hN : NamesAt w) :
    Calls Tryd.prog 3 #[.int .u8 (a : Int), .int .u8 (b : Int), .slice pa xs.length cap] w fun e W' => e = .returned (.bool true) ∧ Below w.heap.size w W' := by
  by_cases h : a < 64
  · cases ho : oneN a
    · exact sets_many a b _ _ _ _ _ _ _ pa cap xs w ha hb h (Lib.hid rfl) (Lib.hid ho) (Lib.hid (by simpa using h)) (Lib.hid rfl) (Lib.hid rfl) (Lib.hid rfl) (Lib.hid rfl) (Lib.hid rfl) (Lib.hid rfl) hl hn hx hlen hN
    · exact sets_one a b _ _ _ _ _ _ _ pa cap xs w ha hb h (Lib.hid rfl) (Lib.hid ho) (Lib.hid (by simpa using h)) (Lib.hid rfl) (Lib.hid rfl) (Lib.hid rfl) (Lib.hid rfl) (Lib.hid rfl) (Lib.hid rfl) hl hn hx hlen hN
  · have ho : oneN a = false := by unfold oneN; rw [decide_eq_false (by omega)]; rfl
    exact sets_beyond a b _ _ _ _ _ _ _ pa cap xs w ha hb (by omega) (Lib.hid rfl) (Lib.hid ho) (Lib.hid (by simpa using h)) (Lib.hid rfl) (Lib.hid rfl) (Lib.hid rfl) (Lib.hid rfl) (Lib.hid rfl) (Lib.hid rfl) hl hn hx hlen hN
end Go.Proofs.YtohhobmjebdfaaaDoor
