/- KtStep KtLoopA KtTellsC: put together for a claim. -/
import Derived.Test.YtjefgmeejhakbaaGreatDoorMgAT
import Derived.Test.YtjefgmeejhakbaaGreatDoorMgAB
import Derived.Test.YtjefgmeejhakbaaGreatDoorKtLoop
import Derived.Test.YtjefgmeejhakbaaGreatDoorMgAQ
import Derived.Test.YtjefgmeejhakbaaGreatDoorMgAV
/- keep's does: its step, and what its greater regions leave. -/
namespace Go.Proofs.YtjefgmeejhakbaaGreatDoor
open Go.RowKit

/-- The world when does has counted its step. -/
def actV (a : Int × Int × Int × Int) : Array Value := #[.int .i64 a.1, .int .i64 a.2.1, .int .i64 a.2.2.1, .int .i64 a.2.2.2]
def stepW (w : World) (b : Nat) (a : Int × Int × Int × Int) (s : Int) : World := (w.setCell ⟨b, 7, none⟩ (.int .i64 s)).alloc (.cells (actV a) 62)
theorem step_at {w0 : Gr} {w : World} {L : EnL} {E : Eng} {TL : TalL} {t : Tal} (h : TaleAt w0 w L E TL t) (a : Int × Int × Int × Int) : TaleAt w0 (stepW w TL.b a (t.steps + 1)) L E TL (stepT t) ∧ (stepW w TL.b a (t.steps + 1)).heap[w.heap.size]? = some (.cells (actV a) 62 (0, 0)) ∧ (stepW w TL.b a (t.steps + 1)).heap.size = w.heap.size + 1 := by
  have hset := setCell_at (o := 7) (v := .int .i64 (t.steps + 1)) h.tal.blk
  have hoth : ∀ g, g ≠ TL.b → (w.setCell ⟨TL.b, 7, none⟩ (.int .i64 (t.steps + 1))).heap[g]? = w.heap[g]? := fun g hg => heap_setCell_other _ _ _ _ hg
  have hsz : (w.setCell ⟨TL.b, 7, none⟩ (.int .i64 (t.steps + 1))).heap.size = w.heap.size := by simp
  have h1 : TaleAt w0 (w.setCell ⟨TL.b, 7, none⟩ (.int .i64 (t.steps + 1))) L E TL (stepT t) := by
    refine h.tale (t' := stepT t) ?_ ⟨rfl, rfl, rfl, by simp, fun g hg hn => hoth g (fun e => hn (.inl e)), fun g hg => .inl hg⟩
    refine h.tal.head (steps := t.steps + 1) (n := t.n) (broken := t.broken) ?_ (fun g _ hg => hoth g hg)
    exact hset.trans (by simp [talCells])
  refine ⟨h1.below ((Below.refl _ _).alloc (Nat.le_refl _) _), ?_, by simp [stepW]⟩
  have := heap_alloc_new (w.setCell ⟨TL.b, 7, none⟩ (.int .i64 (t.steps + 1))) (.cells (actV a) 62)
  rw [hsz] at this
  exact this

/-- What the operations of the first region leave. -/
def p11 (TL : TalL) (N B : Nat) (lv : List Int) (level : Int) (av : Value) (i : Nat) (v : Value) (w : World) : Prop := match i with
  | 5 => v = .pointer (some ⟨TL.b, 1, none⟩)
  | 6 => v = TL.row 0
  | 7 => v = .int .i64 level
  | 8 => pB B 3 (.int .i64 level) v w
  | 9 => pA B 3 (TL.row 0) N (intsV lv) (.int .i64 level) v w
  | 12 => v = .pointer (some ⟨TL.b, 2, none⟩)
  | 13 => v = TL.row 1
  | 14 => v = av
  | 15 => pB B 23 av v w
  | 16 => pA B 23 (TL.row 1) N TL.sn av v w
  | 19 => v = .pointer (some ⟨TL.b, 3, none⟩)
  | 20 => v = TL.row 2
  | 21 => pM B v w
  | 22 => pMB B 69 v w
  | 23 => pMA B 69 (TL.row 2) N (TL.om.map mapV) v w
  | 25 => v = .pointer (some ⟨TL.b, 1, none⟩)
  | 28 => v = .pointer (some ⟨TL.b, 2, none⟩)
  | 31 => v = .pointer (some ⟨TL.b, 3, none⟩)
  | 26 => True
  | 29 => True
  | 32 => True
  | _ => v = .pointer (some ⟨TL.b, 0, none⟩)
theorem p11_stay {TL : TalL} {N B : Nat} {lv : List Int} {level : Int} {av : Value} {hh : Nat → Prop} {W W' : World} {i : Nat} (hc : Chg hh W W') (hB : ∀ g, hh g → g < B ∧ (i ≠ 9 → (TL.row 0).ownBlock ≠ some g) ∧ (i ≠ 16 → (TL.row 1).ownBlock ≠ some g) ∧ (i ≠ 23 → (TL.row 2).ownBlock ≠ some g)) (j : Nat) (u : Value) (hj : j ≠ i) (h : p11 TL N B lv level av j u W) : p11 TL N B lv level av j u W' := by
  unfold p11 at h ⊢
  split at h
  case h_4 => exact pB.stay h hc (fun g hg => (hB g hg).1)
  case h_5 => exact pA.stay h hc (fun g hg => ⟨(hB g hg).1, (hB g hg).2.1 (fun e => hj e.symm)⟩)
  case h_9 => exact pB.stay h hc (fun g hg => (hB g hg).1)
  case h_10 => exact pA.stay h hc (fun g hg => ⟨(hB g hg).1, (hB g hg).2.2.1 (fun e => hj e.symm)⟩)
  case h_13 => exact pM.stay h hc (fun g hg => (hB g hg).1)
  case h_14 => exact pMB.stay h hc (fun g hg => (hB g hg).1)
  case h_15 => exact pMA.stay h hc (fun g hg => ⟨(hB g hg).1, (hB g hg).2.2.2 (fun e => hj e.symm)⟩)
  all_goals first | exact h | (split <;> first | exact h | contradiction)

/-- What the operations of the second region leave. -/
def p12 (TL : TalL) (rd : List Value) (N B : Nat) (bg ov : List Int) (st : Int) (i : Nat) (v : Value) (w : World) : Prop := match i with
  | 5 => v = .pointer (some ⟨TL.b, 4, none⟩)
  | 6 => v = TL.row 3
  | 7 => pB B 73 (.slice none 0 0) v w
  | 8 => pA B 73 (TL.row 3) N rd (.slice none 0 0) v w
  | 11 => v = .pointer (some ⟨TL.b, 5, none⟩)
  | 12 => v = TL.row 4
  | 15 => v = .pointer (some ⟨TL.b, 7, none⟩)
  | 16 => v = .int .i64 st
  | 17 => pB B 3 (.int .i64 st) v w
  | 18 => pA B 3 (TL.row 4) N (intsV bg) (.int .i64 st) v w
  | 21 => v = .pointer (some ⟨TL.b, 6, none⟩)
  | 22 => v = TL.row 5
  | 23 => pB B 3 (.int .i64 0) v w
  | 24 => pA B 3 (TL.row 5) N (intsV ov) (.int .i64 0) v w
  | 26 => v = .pointer (some ⟨TL.b, 4, none⟩)
  | 29 => v = .pointer (some ⟨TL.b, 5, none⟩)
  | 32 => v = .pointer (some ⟨TL.b, 6, none⟩)
  | 27 => True
  | 30 => True
  | 33 => True
  | _ => v = .pointer (some ⟨TL.b, 0, none⟩)
theorem p12_stay {TL : TalL} {rd : List Value} {N B : Nat} {bg ov : List Int} {st : Int} {hh : Nat → Prop} {W W' : World} {i : Nat} (hc : Chg hh W W') (hB : ∀ g, hh g → g < B ∧ (i ≠ 8 → (TL.row 3).ownBlock ≠ some g) ∧ (i ≠ 18 → (TL.row 4).ownBlock ≠ some g) ∧ (i ≠ 24 → (TL.row 5).ownBlock ≠ some g)) (j : Nat) (u : Value) (hj : j ≠ i) (h : p12 TL rd N B bg ov st j u W) : p12 TL rd N B bg ov st j u W' := by
  unfold p12 at h ⊢
  split at h
  case h_3 => exact pB.stay h hc (fun g hg => (hB g hg).1)
  case h_4 => exact pA.stay h hc (fun g hg => ⟨(hB g hg).1, (hB g hg).2.1 (fun e => hj e.symm)⟩)
  case h_9 => exact pB.stay h hc (fun g hg => (hB g hg).1)
  case h_10 => exact pA.stay h hc (fun g hg => ⟨(hB g hg).1, (hB g hg).2.2.1 (fun e => hj e.symm)⟩)
  case h_13 => exact pB.stay h hc (fun g hg => (hB g hg).1)
  case h_14 => exact pA.stay h hc (fun g hg => ⟨(hB g hg).1, (hB g hg).2.2.2 (fun e => hj e.symm)⟩)
  all_goals first | exact h | (split <;> first | exact h | contradiction)
/-- Two new rows of numbers are told apart. -/
def TwoNe (listed : Array Bool) (a : Act) : Prop := DoneAt listed 18 → DoneAt listed 24 → ∀ g, (a.tmps.getD 124 undef).ownBlock = some g → (a.tmps.getD 130 undef).ownBlock = some g → False
theorem gkeep {listed : Array Bool} {a : Act} {i d : Nat} {v : Value} (h : TwoNe listed a) (hi : i ≠ 18 ∧ i ≠ 24) (hd : d ≠ 124 ∧ d ≠ 130) : TwoNe (listed.setIfInBounds i true) (a.put (some d) v) := fun h1 h2 g hg1 hg2 => by
  rw [getD_put_ne hd.1.symm] at hg1
  rw [getD_put_ne hd.2.symm] at hg2
  exact h ((done_set_ne hi.1.symm).1 h1) ((done_set_ne hi.2.symm).1 h2) g hg1 hg2
theorem gkeepN {listed : Array Bool} {a : Act} {i : Nat} {v : Value} (h : TwoNe listed a) (hi : i ≠ 18 ∧ i ≠ 24) : TwoNe (listed.setIfInBounds i true) (a.put none v) := fun h1 h2 g hg1 hg2 => h ((done_set_ne hi.1.symm).1 h1) ((done_set_ne hi.2.symm).1 h2) g hg1 hg2

end Go.Proofs.YtjefgmeejhakbaaGreatDoor

/- keep's does: who is over now, over a frame of which little is known. -/
namespace Go.Proofs.YtjefgmeejhakbaaGreatDoor
open Go.RowKit

theorem arr_letters (a : Array Value) (n : Nat) (h : a.size = n) : a = ((List.range n).map (fun k => a.getD k undef)).toArray := by
  refine Array.ext (by simp [h]) (fun i h1 h2 => ?_)
  simp [Array.getD_eq_getD_getElem?, h1]
set_option maxRecDepth 1000000 in
set_option maxHeartbeats 4000000 in
theorem act_letters (a : Act) (h : a.tmps.size = 394) (hd : a.defers = []) : a = ⟨List.toArray (a.tmps.getD 0 undef :: a.tmps.getD 1 undef :: a.tmps.getD 2 undef :: a.tmps.getD 3 undef :: a.tmps.getD 4 undef :: a.tmps.getD 5 undef :: a.tmps.getD 6 undef :: a.tmps.getD 7 undef :: a.tmps.getD 8 undef :: a.tmps.getD 9 undef :: a.tmps.getD 10 undef :: a.tmps.getD 11 undef :: a.tmps.getD 12 undef :: a.tmps.getD 13 undef :: a.tmps.getD 14 undef :: a.tmps.getD 15 undef :: a.tmps.getD 16 undef :: a.tmps.getD 17 undef :: a.tmps.getD 18 undef :: a.tmps.getD 19 undef :: a.tmps.getD 20 undef :: a.tmps.getD 21 undef :: a.tmps.getD 22 undef :: a.tmps.getD 23 undef :: a.tmps.getD 24 undef :: a.tmps.getD 25 undef :: a.tmps.getD 26 undef :: a.tmps.getD 27 undef :: a.tmps.getD 28 undef :: a.tmps.getD 29 undef :: a.tmps.getD 30 undef :: a.tmps.getD 31 undef :: a.tmps.getD 32 undef :: a.tmps.getD 33 undef :: a.tmps.getD 34 undef :: a.tmps.getD 35 undef :: a.tmps.getD 36 undef :: a.tmps.getD 37 undef :: a.tmps.getD 38 undef :: a.tmps.getD 39 undef :: a.tmps.getD 40 undef :: a.tmps.getD 41 undef :: a.tmps.getD 42 undef :: a.tmps.getD 43 undef :: a.tmps.getD 44 undef :: a.tmps.getD 45 undef :: a.tmps.getD 46 undef :: a.tmps.getD 47 undef :: a.tmps.getD 48 undef :: a.tmps.getD 49 undef :: a.tmps.getD 50 undef :: a.tmps.getD 51 undef :: a.tmps.getD 52 undef :: a.tmps.getD 53 undef :: a.tmps.getD 54 undef :: a.tmps.getD 55 undef :: a.tmps.getD 56 undef :: a.tmps.getD 57 undef :: a.tmps.getD 58 undef :: a.tmps.getD 59 undef :: a.tmps.getD 60 undef :: a.tmps.getD 61 undef :: a.tmps.getD 62 undef :: a.tmps.getD 63 undef :: a.tmps.getD 64 undef :: a.tmps.getD 65 undef :: a.tmps.getD 66 undef :: a.tmps.getD 67 undef :: a.tmps.getD 68 undef :: a.tmps.getD 69 undef :: a.tmps.getD 70 undef :: a.tmps.getD 71 undef :: a.tmps.getD 72 undef :: a.tmps.getD 73 undef :: a.tmps.getD 74 undef :: a.tmps.getD 75 undef :: a.tmps.getD 76 undef :: a.tmps.getD 77 undef :: a.tmps.getD 78 undef :: a.tmps.getD 79 undef :: a.tmps.getD 80 undef :: a.tmps.getD 81 undef :: a.tmps.getD 82 undef :: a.tmps.getD 83 undef :: a.tmps.getD 84 undef :: a.tmps.getD 85 undef :: a.tmps.getD 86 undef :: a.tmps.getD 87 undef :: a.tmps.getD 88 undef :: a.tmps.getD 89 undef :: a.tmps.getD 90 undef :: a.tmps.getD 91 undef :: a.tmps.getD 92 undef :: a.tmps.getD 93 undef :: a.tmps.getD 94 undef :: a.tmps.getD 95 undef :: a.tmps.getD 96 undef :: a.tmps.getD 97 undef :: a.tmps.getD 98 undef :: a.tmps.getD 99 undef :: a.tmps.getD 100 undef :: a.tmps.getD 101 undef :: a.tmps.getD 102 undef :: a.tmps.getD 103 undef :: a.tmps.getD 104 undef :: a.tmps.getD 105 undef :: a.tmps.getD 106 undef :: a.tmps.getD 107 undef :: a.tmps.getD 108 undef :: a.tmps.getD 109 undef :: a.tmps.getD 110 undef :: a.tmps.getD 111 undef :: a.tmps.getD 112 undef :: a.tmps.getD 113 undef :: a.tmps.getD 114 undef :: a.tmps.getD 115 undef :: a.tmps.getD 116 undef :: a.tmps.getD 117 undef :: a.tmps.getD 118 undef :: a.tmps.getD 119 undef :: a.tmps.getD 120 undef :: a.tmps.getD 121 undef :: a.tmps.getD 122 undef :: a.tmps.getD 123 undef :: a.tmps.getD 124 undef :: a.tmps.getD 125 undef :: a.tmps.getD 126 undef :: a.tmps.getD 127 undef :: a.tmps.getD 128 undef :: a.tmps.getD 129 undef :: a.tmps.getD 130 undef :: a.tmps.getD 131 undef :: a.tmps.getD 132 undef :: a.tmps.getD 133 undef :: a.tmps.getD 134 undef :: a.tmps.getD 135 undef :: a.tmps.getD 136 undef :: a.tmps.getD 137 undef :: a.tmps.getD 138 undef :: a.tmps.getD 139 undef :: a.tmps.getD 140 undef :: a.tmps.getD 141 undef :: a.tmps.getD 142 undef :: a.tmps.getD 143 undef :: a.tmps.getD 144 undef :: a.tmps.getD 145 undef :: a.tmps.getD 146 undef :: a.tmps.getD 147 undef :: a.tmps.getD 148 undef :: a.tmps.getD 149 undef :: a.tmps.getD 150 undef :: a.tmps.getD 151 undef :: a.tmps.getD 152 undef :: a.tmps.getD 153 undef :: a.tmps.getD 154 undef :: a.tmps.getD 155 undef :: a.tmps.getD 156 undef :: a.tmps.getD 157 undef :: a.tmps.getD 158 undef :: a.tmps.getD 159 undef :: a.tmps.getD 160 undef :: a.tmps.getD 161 undef :: a.tmps.getD 162 undef :: a.tmps.getD 163 undef :: a.tmps.getD 164 undef :: a.tmps.getD 165 undef :: a.tmps.getD 166 undef :: a.tmps.getD 167 undef :: a.tmps.getD 168 undef :: a.tmps.getD 169 undef :: a.tmps.getD 170 undef :: a.tmps.getD 171 undef :: a.tmps.getD 172 undef :: a.tmps.getD 173 undef :: a.tmps.getD 174 undef :: a.tmps.getD 175 undef :: a.tmps.getD 176 undef :: a.tmps.getD 177 undef :: a.tmps.getD 178 undef :: a.tmps.getD 179 undef :: a.tmps.getD 180 undef :: a.tmps.getD 181 undef :: a.tmps.getD 182 undef :: a.tmps.getD 183 undef :: a.tmps.getD 184 undef :: a.tmps.getD 185 undef :: a.tmps.getD 186 undef :: a.tmps.getD 187 undef :: a.tmps.getD 188 undef :: a.tmps.getD 189 undef :: a.tmps.getD 190 undef :: a.tmps.getD 191 undef :: a.tmps.getD 192 undef :: a.tmps.getD 193 undef :: a.tmps.getD 194 undef :: a.tmps.getD 195 undef :: a.tmps.getD 196 undef :: a.tmps.getD 197 undef :: a.tmps.getD 198 undef :: a.tmps.getD 199 undef :: a.tmps.getD 200 undef :: a.tmps.getD 201 undef :: a.tmps.getD 202 undef :: a.tmps.getD 203 undef :: a.tmps.getD 204 undef :: a.tmps.getD 205 undef :: a.tmps.getD 206 undef :: a.tmps.getD 207 undef :: a.tmps.getD 208 undef :: a.tmps.getD 209 undef :: a.tmps.getD 210 undef :: a.tmps.getD 211 undef :: a.tmps.getD 212 undef :: a.tmps.getD 213 undef :: a.tmps.getD 214 undef :: a.tmps.getD 215 undef :: a.tmps.getD 216 undef :: a.tmps.getD 217 undef :: a.tmps.getD 218 undef :: a.tmps.getD 219 undef :: a.tmps.getD 220 undef :: a.tmps.getD 221 undef :: a.tmps.getD 222 undef :: a.tmps.getD 223 undef :: a.tmps.getD 224 undef :: a.tmps.getD 225 undef :: a.tmps.getD 226 undef :: a.tmps.getD 227 undef :: a.tmps.getD 228 undef :: a.tmps.getD 229 undef :: a.tmps.getD 230 undef :: a.tmps.getD 231 undef :: a.tmps.getD 232 undef :: a.tmps.getD 233 undef :: a.tmps.getD 234 undef :: a.tmps.getD 235 undef :: a.tmps.getD 236 undef :: a.tmps.getD 237 undef :: a.tmps.getD 238 undef :: a.tmps.getD 239 undef :: a.tmps.getD 240 undef :: a.tmps.getD 241 undef :: a.tmps.getD 242 undef :: a.tmps.getD 243 undef :: a.tmps.getD 244 undef :: a.tmps.getD 245 undef :: a.tmps.getD 246 undef :: a.tmps.getD 247 undef :: a.tmps.getD 248 undef :: a.tmps.getD 249 undef :: a.tmps.getD 250 undef :: a.tmps.getD 251 undef :: a.tmps.getD 252 undef :: a.tmps.getD 253 undef :: a.tmps.getD 254 undef :: a.tmps.getD 255 undef :: a.tmps.getD 256 undef :: a.tmps.getD 257 undef :: a.tmps.getD 258 undef :: a.tmps.getD 259 undef :: a.tmps.getD 260 undef :: a.tmps.getD 261 undef :: a.tmps.getD 262 undef :: a.tmps.getD 263 undef :: a.tmps.getD 264 undef :: a.tmps.getD 265 undef :: a.tmps.getD 266 undef :: a.tmps.getD 267 undef :: a.tmps.getD 268 undef :: a.tmps.getD 269 undef :: a.tmps.getD 270 undef :: a.tmps.getD 271 undef :: a.tmps.getD 272 undef :: a.tmps.getD 273 undef :: a.tmps.getD 274 undef :: a.tmps.getD 275 undef :: a.tmps.getD 276 undef :: a.tmps.getD 277 undef :: a.tmps.getD 278 undef :: a.tmps.getD 279 undef :: a.tmps.getD 280 undef :: a.tmps.getD 281 undef :: a.tmps.getD 282 undef :: a.tmps.getD 283 undef :: a.tmps.getD 284 undef :: a.tmps.getD 285 undef :: a.tmps.getD 286 undef :: a.tmps.getD 287 undef :: a.tmps.getD 288 undef :: a.tmps.getD 289 undef :: a.tmps.getD 290 undef :: a.tmps.getD 291 undef :: a.tmps.getD 292 undef :: a.tmps.getD 293 undef :: a.tmps.getD 294 undef :: a.tmps.getD 295 undef :: a.tmps.getD 296 undef :: a.tmps.getD 297 undef :: a.tmps.getD 298 undef :: a.tmps.getD 299 undef :: a.tmps.getD 300 undef :: a.tmps.getD 301 undef :: a.tmps.getD 302 undef :: a.tmps.getD 303 undef :: a.tmps.getD 304 undef :: a.tmps.getD 305 undef :: a.tmps.getD 306 undef :: a.tmps.getD 307 undef :: a.tmps.getD 308 undef :: a.tmps.getD 309 undef :: a.tmps.getD 310 undef :: a.tmps.getD 311 undef :: a.tmps.getD 312 undef :: a.tmps.getD 313 undef :: a.tmps.getD 314 undef :: a.tmps.getD 315 undef :: a.tmps.getD 316 undef :: a.tmps.getD 317 undef :: a.tmps.getD 318 undef :: a.tmps.getD 319 undef :: a.tmps.getD 320 undef :: a.tmps.getD 321 undef :: a.tmps.getD 322 undef :: a.tmps.getD 323 undef :: a.tmps.getD 324 undef :: a.tmps.getD 325 undef :: a.tmps.getD 326 undef :: a.tmps.getD 327 undef :: a.tmps.getD 328 undef :: a.tmps.getD 329 undef :: a.tmps.getD 330 undef :: a.tmps.getD 331 undef :: a.tmps.getD 332 undef :: a.tmps.getD 333 undef :: a.tmps.getD 334 undef :: a.tmps.getD 335 undef :: a.tmps.getD 336 undef :: a.tmps.getD 337 undef :: a.tmps.getD 338 undef :: a.tmps.getD 339 undef :: a.tmps.getD 340 undef :: a.tmps.getD 341 undef :: a.tmps.getD 342 undef :: a.tmps.getD 343 undef :: a.tmps.getD 344 undef :: a.tmps.getD 345 undef :: a.tmps.getD 346 undef :: a.tmps.getD 347 undef :: a.tmps.getD 348 undef :: a.tmps.getD 349 undef :: a.tmps.getD 350 undef :: a.tmps.getD 351 undef :: a.tmps.getD 352 undef :: a.tmps.getD 353 undef :: a.tmps.getD 354 undef :: a.tmps.getD 355 undef :: a.tmps.getD 356 undef :: a.tmps.getD 357 undef :: a.tmps.getD 358 undef :: a.tmps.getD 359 undef :: a.tmps.getD 360 undef :: a.tmps.getD 361 undef :: a.tmps.getD 362 undef :: a.tmps.getD 363 undef :: a.tmps.getD 364 undef :: a.tmps.getD 365 undef :: a.tmps.getD 366 undef :: a.tmps.getD 367 undef :: a.tmps.getD 368 undef :: a.tmps.getD 369 undef :: a.tmps.getD 370 undef :: a.tmps.getD 371 undef :: a.tmps.getD 372 undef :: a.tmps.getD 373 undef :: a.tmps.getD 374 undef :: a.tmps.getD 375 undef :: a.tmps.getD 376 undef :: a.tmps.getD 377 undef :: a.tmps.getD 378 undef :: a.tmps.getD 379 undef :: a.tmps.getD 380 undef :: a.tmps.getD 381 undef :: a.tmps.getD 382 undef :: a.tmps.getD 383 undef :: a.tmps.getD 384 undef :: a.tmps.getD 385 undef :: a.tmps.getD 386 undef :: a.tmps.getD 387 undef :: a.tmps.getD 388 undef :: a.tmps.getD 389 undef :: a.tmps.getD 390 undef :: a.tmps.getD 391 undef :: a.tmps.getD 392 undef :: a.tmps.getD 393 undef :: []), []⟩ := by
  obtain ⟨ts, ds⟩ := a
  simp only at h hd
  subst hd
  congr 1
  exact arr_letters ts 394 h
set_option maxRecDepth 1000000 in
set_option maxHeartbeats 4000000 in
theorem over_loop' {w0 : Gr} {w : World} {L2 : EnL} {E2 : Eng} {TL2 : TalL} {t2 : Tal} {N tb : Nat} (HTT : Hid (TaleAt w0 w L2 E2 TL2 t2)) (HEN : Hid (E2.txs.length = N)) (hle : N ≤ 200) (hTb : TL2.b = tb) (Q : Exit → Act → World → Prop)
    (hexit : ∀ (a' : Act) (w' : World), a'.defers = [] ∧ TaleAt w0 w' L2 E2 TL2 (endT E2 t2) → Q (.exit 1) a' w') (a : Act) (hsz : a.tmps.size = 394) (h0 : a.tmps.getD 0 undef = .pointer (some ⟨tb, 0, none⟩)) (h27 : a.tmps.getD 27 undef = .int .i64 0) (hd : a.defers = []) :
    Code.wp Tryz.prog (Code.loop overBody) Q a w := by
  rw [act_letters a hsz hd, h0, h27]
  exact over_loop HTT HEN hle hTb Q hexit _ _ _ _ _ _ _ _ _ _ _ _ _ _ _ _ _ _ _ _ _ _ _ _ _ _ _ _ _ _ _ _ _ _ _ _ _ _ _ _ _ _ _ _ _ _ _ _ _ _ _ _ _ _ _ _ _ _ _ _ _ _ _ _ _ _ _ _ _ _ _ _ _ _ _ _ _ _ _ _ _ _ _ _ _ _ _ _ _ _ _ _ _ _ _ _ _ _ _ _ _ _ _ _ _ _ _ _ _ _ _ _ _ _ _ _ _ _ _ _ _ _ _ _ _ _ _ _ _ _ _ _ _ _ _ _ _ _ _ _ _ _ _ _ _ _ _ _ _ _ _ _ _ _ _ _ _ _ _ _ _ _ _ _ _ _ _ _ _ _ _ _ _ _ _ _ _ _ _ _ _ _ _ _ _ _ _ _ _ _ _ _ _ _ _ _ _ _ _ _ _ _ _ _ _ _ _ _ _ _ _ _ _ _ _ _ _ _ _ _ _ _ _ _ _ _ _ _ _ _ _ _ _ _ _ _ _ _ _ _ _ _ _ _ _ _ _ _ _ _ _ _ _ _ _ _ _ _ _ _ _ _ _ _ _ _ _ _ _ _ _ _ _ _ _ _ _ _ _ _ _ _ _ _ _ _ _ _ _ _ _ _ _ _ _ _ _ _ _ _ _ _ _ _ _ _ _ _ _ _ _ _ _ _ _ _ _ _ _ _ _ _ _ _ _ _ _ _ _ _ _ _ _ _ _ _ _ _ _ _ _ _ _ _ _ _ _ _ _ _ _ _ _ _ _ _ _ _ _ _ _ _ _ _ _ _ _ _ _ _ _ _ _ _ _ _ _ _ _ _ _ _ _ _ _ _ _ _ _ _ _ _
theorem over_loop2 {w0 : Gr} {w : World} {L2 : EnL} {E2 : Eng} {TL2 : TalL} {t2 : Tal} {N tb : Nat} (HTT : Hid (TaleAt w0 w L2 E2 TL2 t2)) (HEN : Hid (E2.txs.length = N)) (hle : N ≤ 200) (hTb : TL2.b = tb) (Q : Exit → Act → World → Prop)
    (hexit : ∀ (a' : Act) (w' : World), a'.defers = [] ∧ TaleAt w0 w' L2 E2 TL2 (endT E2 t2) → Q (.exit 1) a' w') (a : Act) (hsz : a.tmps.size = 394) (h0 : a.tmps.getD 0 undef = .pointer (some ⟨tb, 0, none⟩)) :
    Code.wp Tryz.prog (Code.loop overBody) Q ⟨a.tmps.setIfInBounds 27 (.int .i64 0), []⟩ w :=
  over_loop' HTT HEN hle hTb Q hexit ⟨a.tmps.setIfInBounds 27 (.int .i64 0), []⟩ (by simpa using hsz) ((getD_put_ne (a := a) (d := 0) (e := 27) (v := .int .i64 0) (by decide)).trans h0) (getD_put_same (a := a) (d := 27) (v := .int .i64 0) (by rw [hsz]; decide)) rfl

end Go.Proofs.YtjefgmeejhakbaaGreatDoor

/- Plain: each act keeps what a tale tells, put together. -/
namespace Go.Proofs.YtjefgmeejhakbaaGreatDoor

section
variable {E E' : Eng} {t t' : Tal}
theorem tells0 : Tells eng0 tal00 :=
  ⟨mid0_eng0, rfl, rfl, rfl, rfl, rfl, rfl, fun i u h => (by cases h), fun i u h => (by simp [eng0, Eng.ce] at h), fun i u h => (by cases h), rfl, by decide, fun o h => (by cases h), fun o h => (by cases h), fun i u h => (by cases h), fun o h => (by cases h), fun i k u c h => (by cases h), fun i k u v _ h => (by cases h), fun c i u _ h => (by cases h), fun i u l h => (by cases h)⟩
theorem Tells.same (h : Tells E t) : Tells E (stepT t) :=
  ⟨h.mid, h.llev, h.lsnap, h.lown, h.lreads, h.lbegun, h.lover, h.lev, h.own, h.snap, h.ok, ⟨h.num.1, by have := h.num; show t.n ≤ t.steps + 1; omega⟩, fun o ho => by have := h.ovr o ho; show o ≤ t.steps + 1; omega, h.ovp, h.ovn, fun o ho => ⟨(h.bgn o ho).1, by have := (h.bgn o ho).2; show o ≤ t.steps + 1; omega⟩, h.ord, h.mono, h.late, h.rds⟩
theorem Tells.sweep (h : Tells E t) : Tells (sweepE E) (stepT t) :=
  ⟨h.mid.sweep, h.llev, h.lsnap, h.lown, h.lreads, h.lbegun, h.lover, h.lev, h.own, h.snap, h.ok, ⟨h.num.1, by have := h.num; show t.n ≤ t.steps + 1; omega⟩, fun o ho => by have := h.ovr o ho; show o ≤ t.steps + 1; omega, h.ovp, h.ovn, fun o ho => ⟨(h.bgn o ho).1, by have := (h.bgn o ho).2; show o ≤ t.steps + 1; omega⟩, h.ord, h.mono, h.late, h.rds⟩
theorem Tells.went (h : Tells E t) (hM : Mid0 E') (hL : Later E.ce E'.ce) {own' : List (Int → Option Int)} {reads' : List (List (Int × Int))} {n' : Int} (hol : OwnLen (fun i => own'[i]?.getD (fun _ => none)) E.txs.length E' noQ) (ho : own'.length = t.own.length) (hr : reads'.length = t.reads.length)
    (hrd : ∀ (i : Nat) (u : Tx) (l : List (Int × Int)), E.txs[i]? = some u → u.level ≠ 0 → reads'[i]? = some l → ∀ p ∈ l, (0 ≤ p.1 ∧ p.1 < 10) ∧ p.2 = valOr (rdP u.start (full0 E.ce p.1))) (hn : 0 ≤ n' ∧ n' ≤ t.steps + 1) :
    Tells E' (endT E' { t with own := own', reads := reads', n := n', steps := t.steps + 1, broken := false }) :=
  h.go hM hL hol.2 hol.1 ho hr hrd hn (fun c hc _ i u hu => by
    have h1 : u.start ≤ E.last := (h.mid.com.start i _ (cs_get hu)).2
    omega)
theorem Tells.begin (h : Tells E t) {level : Int} (hlv : level = 0 ∨ level = 1 ∨ level = 2) (hl : E.txs.length < 200) (ho : (liveOnes E).length < 6) : Tells { E with txs := E.txs ++ [newTx level E.last] } (beginT E (stepT t) level) := by
  have hM := h.mid.begin hlv hl (by rw [← live_len]; exact ho)
  have hL := later_begin E (newTx level E.last)
  have hC := h.mid.com
  have hst : ∀ (i : Nat) (u : Tx), E.txs[i]? = some u → u.start ≤ E.last := fun i u hu => (hC.start i _ (cs_get hu)).2
  have hnum := h.num
  have part : ∀ (i : Nat) (u : Tx), (E.txs ++ [newTx level E.last])[i]? = some u → E.txs[i]? = some u ∨ (i = E.txs.length ∧ u = newTx level E.last) := fun i u hu => by
    rcases Nat.lt_or_ge i E.txs.length with hi | hi
    · rw [List.getElem?_append_left hi] at hu; exact .inl hu
    · rw [List.getElem?_append_right hi] at hu
      have h0 : i - E.txs.length = 0 := by
        have := (List.getElem?_eq_some_iff.1 hu).1
        simp at this
        omega
      rw [h0] at hu
      simp at hu
      exact .inr ⟨by omega, hu.symm⟩
  have ltn : ∀ {i : Nat} {u : Tx}, E.txs[i]? = some u → i < E.txs.length := fun hu => (List.getElem?_eq_some_iff.1 hu).1
  refine ⟨hM, by show (t.level ++ [level]).length = _; simp [h.llev], by show (t.snap ++ [allE E]).length = _; simp [h.lsnap], by show (t.own ++ [_]).length = _; simp [h.lown], by show (t.reads ++ [[]]).length = _; simp [h.lreads], by show (t.begun ++ [t.steps + 1]).length = _; simp [h.lbegun], by show (t.over ++ [0]).length = _; simp [h.lover], fun i u hu => ?_, ?_, fun i u hu k hk => ?_, h.ok, ⟨hnum.1, by show t.n ≤ t.steps + 1; omega⟩, fun o ho => ?_, fun o ho => ?_, fun k u hu h2 => ?_, fun o ho => ?_, fun i k u c hu hc hcs => ?_, fun i k u v hki hv hu => ?_, fun c i u hc hu => ?_, fun i u l hu hlv2 hl2 p hp => ?_⟩
  · show (t.level ++ [level])[i]? = some u.level
    rcases part i u hu with h1 | ⟨rfl, rfl⟩
    · rw [List.getElem?_append_left (by rw [h.llev]; exact ltn h1)]; exact h.lev i u h1
    · rw [List.getElem?_append_right (by rw [h.llev]; exact Nat.le_refl _), h.llev]; simp [newTx]
  · intro i c hc hlive
    obtain ⟨u, hu, rfl⟩ := cs_of hc
    show (t.own ++ [fun _ => none])[i]?.getD (fun _ => none) = _
    rcases part i u hu with h1 | ⟨rfl, rfl⟩
    · rw [List.getElem?_append_left (by rw [h.lown]; exact ltn h1)]; exact h.own i _ (cs_get h1) hlive
    · rw [List.getElem?_append_right (by rw [h.lown]; exact Nat.le_refl _), h.lown]
      simp [newTx, cor]
  · show ofP ((t.snap ++ [allE E])[i]?.getD []) k = _
    rcases part i u hu with h1 | ⟨rfl, rfl⟩
    · rw [List.getElem?_append_left (by rw [h.lsnap]; exact ltn h1), h.snap i u h1 k hk]
      rw [hL.rd hC k (hst i u h1)]
    · rw [List.getElem?_append_right (by rw [h.lsnap]; exact Nat.le_refl _), h.lsnap]
      simp only [Nat.sub_self, List.getElem?_cons_zero, Option.getD_some]
      rw [of_all E hk, h.mid.rd_full (u := E.last) hk (.inl (Int.le_refl _))]
      show _ = valOr (rdP E.last (full0 _ k))
      rw [hL.rd hC k (show E.last ≤ E.ce.last from Int.le_refl _)]
  · rcases List.mem_append.1 (show o ∈ t.over ++ [0] from ho) with h1 | h1
    · have := h.ovr o h1; show o ≤ t.steps + 1; omega
    · rw [List.mem_singleton.1 h1]; show (0 : Int) ≤ t.steps + 1; omega
  · rcases List.mem_append.1 (show o ∈ t.over ++ [0] from ho) with h1 | h1
    · exact h.ovp o h1
    · rw [List.mem_singleton.1 h1]; exact Int.le_refl _
  · show 0 < (t.over ++ [0])[k]?.getD 0
    rcases part k u hu with h1 | ⟨rfl, rfl⟩
    · rw [List.getElem?_append_left (by rw [h.lover]; exact ltn h1)]; exact h.ovn k u h1 h2
    · simp [newTx] at h2
  · rcases List.mem_append.1 (show o ∈ t.begun ++ [t.steps + 1] from ho) with h1 | h1
    · have := h.bgn o h1; exact ⟨this.1, by show o ≤ t.steps + 1; omega⟩
    · rw [List.mem_singleton.1 h1]; exact ⟨by omega, Int.le_refl _⟩
  · show (t.over ++ [0])[k]?.getD 0 < (t.begun ++ [t.steps + 1])[i]?.getD 0
    obtain ⟨x, hx, hx2⟩ := (hC.coms k).1 (List.mem_filter.1 (hC.wr_com (show E.ce.wr c = _ from hc))).1
    obtain ⟨y, hy, _⟩ := cs_of hx
    have hk : k < t.over.length := by rw [h.lover]; exact ltn hy
    rw [List.getElem?_append_left hk]
    rcases part i u hu with h1 | ⟨rfl, rfl⟩
    · rw [List.getElem?_append_left (by rw [h.lbegun]; exact ltn h1)]; exact h.ord i k u c h1 hc hcs
    · rw [List.getElem?_append_right (by rw [h.lbegun]; exact Nat.le_refl _), h.lbegun, List.getElem?_eq_getElem hk]
      simp only [Nat.sub_self, List.getElem?_cons_zero, Option.getD_some]
      have := h.ovr _ (List.getElem_mem hk)
      omega
  · rcases part k v hv with h1 | ⟨rfl, rfl⟩
    · rcases part i u hu with h2 | ⟨rfl, rfl⟩
      · exact h.mono i k u v hki h1 h2
      · exact hst k v h1
    · rcases part i u hu with h2 | ⟨_, rfl⟩
      · have := ltn h2; omega
      · exact Int.le_refl _
  · rcases part i u hu with h2 | ⟨rfl, rfl⟩
    · exact h.late c i u hc h2
    · exfalso
      obtain ⟨x, hx, hx2⟩ := (hC.coms E.txs.length).1 (List.mem_filter.1 (hC.wr_com (show E.ce.wr c = _ from hc))).1
      obtain ⟨y, hy, _⟩ := cs_of hx
      have := ltn hy
      omega
  · rcases part i u hu with h2 | ⟨rfl, rfl⟩
    · have hl3 : t.reads[i]? = some l := by
        have : (t.reads ++ [[]])[i]? = some l := hl2
        rwa [List.getElem?_append_left (by rw [h.lreads]; exact ltn h2)] at this
      have := h.rds i u l h2 hlv2 hl3 p hp
      rw [hL.rd hC p.1 (hst i u h2)]
      exact this
    · have : (t.reads ++ [[]])[E.txs.length]? = some l := hl2
      rw [List.getElem?_append_right (by rw [h.lreads]; exact Nat.le_refl _), h.lreads] at this
      simp at this
      subst this
      cases hp
theorem readV_ver (E : Eng) (key s : Int) : readV ((verP E key s).1.2, (verP E key s).2) = valOr (rdP s (E.ks[key.toNat]?.getD [])) ∧ ((verP E key s).2 = 0 ∨ (verP E key s).2 = 8) := by
  unfold verP
  cases rdP s (E.ks[key.toNat]?.getD []) with
  | none => exact ⟨rfl, .inr rfl⟩
  | some p => exact ⟨rfl, .inl rfl⟩
theorem own_of (h : Tells E t) {x : Nat} {u : Tx} (hu : E.txs[x]? = some u) (hs : u.state = 0) : ownT t x = u.vals := by
  have := h.own x _ (cs_get hu) (live_iff.2 (.inl hs))
  rw [if_neg (show ¬ (cor u).state = 1 from by show ¬ u.state = 1; omega)] at this
  exact this
/-- What it should read it reads. -/
theorem Tells.want (h : Tells E t) {x : Nat} {u : Tx} (hu : E.txs[x]? = some u) (hs : u.state = 0) {key : Int} (hk : 0 ≤ key ∧ key < 10) : valOr (rdP (seesP E u) (E.ks[key.toNat]?.getD [])) = wantT E t x key ∧ (u.level ≠ 0 → valOr (rdP (seesP E u) (E.ks[key.toNat]?.getD [])) = valOr (rdP u.start (full0 E.ce key))) := by
  unfold wantT seesP
  rw [h.lev x u hu]
  simp only [Option.getD_some]
  by_cases h0 : u.level = 0
  · rw [if_pos h0, if_pos h0]
    exact ⟨(of_all E hk).symm, fun h => absurd h0 h⟩
  · rw [if_neg h0, if_neg h0, h.snap x u hu key hk]
    rw [h.mid.rd_full (u := u.start) hk (.inr ⟨x, _, cs_get hu, live_iff.2 (.inl hs), h0, Int.le_refl _⟩)]
    exact ⟨rfl, fun _ => rfl⟩
theorem Does.tells {lv : Int} (hd : Does lv E t E' t') (h : Tells E t) (hn : t.n ≤ 1000000) (hrd : ∃ n, ∀ u ∈ E.txs, u.reads.length ≤ n) : Tells E' t' := by
  obtain ⟨n, hrd⟩ := hrd
  have hnum := h.num
  have hown : OwnOk (fun i => t.own[i]?.getD (fun _ => none)) E.ce := h.own
  cases hd with
  | same => exact h.same
  | begin level hl0 hl ho => exact h.begin hl0.1 hl ho
  | sweep => exact h.sweep
  | shut =>
    have := h.went h.mid (Later.refl _) (own' := t.own) (reads' := t.reads) (n' := t.n) ⟨hown, rfl⟩ rfl rfl h.rds (by omega)
    rw [← h.ok] at this
    exact this
  | wshut =>
    have := h.went h.mid (Later.refl _) (own' := t.own) (reads' := t.reads) (n' := t.n + 1) ⟨hown, rfl⟩ rfl rfl h.rds (by omega)
    rw [← h.ok] at this
    exact this
  | commit x u R hu hs hR =>
    have hw := (went_commit h.mid hrd hu hs hR).1
    have := h.went hw.mid hw.later (own' := t.own) (reads' := t.reads) (n' := t.n) (ol_commit h.mid hown hu hs hR) rfl rfl h.rds (by omega)
    rw [← h.ok] at this
    exact this
  | abort x u E' hu hs hR =>
    have hw := (went_abort h.mid hrd hu hs hR).1
    have := h.went hw.mid hw.later (own' := t.own) (reads' := t.reads) (n' := t.n) (ol_abort h.mid hown hu hs hR) rfl rfl h.rds (by omega)
    rw [← h.ok] at this
    exact this
  | read x u key R hu hs hk hR =>
    have hw := went_read h.mid hrd hu hs (by omega) hR
    obtain ⟨hol, hcs⟩ := ol_read h.mid hown hu hs (key := key) (by omega) hR
    have go := h.went hw.mid hw.later (own' := t.own) (reads' := t.reads) (n' := t.n) hol rfl rfl h.rds (by omega)
    have hov := own_of h hu hs
    unfold readT
    rw [show ownT (stepT t) x = u.vals from hov]
    rcases hcs with ⟨v, hv, rfl⟩ | ⟨hv, hcs⟩
    · rw [if_neg (by simp), hv]
      have e : ({ (stepT t) with broken := (stepT t).broken || readV ((v, 0) : Int × Int) != v } : Tal) = { t with own := t.own, reads := t.reads, n := t.n, steps := t.steps + 1, broken := false } := by
        simp [stepT, readV, h.ok]
      rw [show (((v, 0), E) : (Int × Int) × Eng).1 = (v, 0) from rfl] 
      simp only
      rw [e]
      exact go
    · rw [hv]
      rcases hcs with ⟨e1, e2⟩ | e1
      · obtain ⟨h1, h2⟩ := readV_ver E key (seesP E u)
        rw [← e1] at h1
        have h3 : R.1.2 = 0 ∨ R.1.2 = 8 := by rw [e1]; exact h2
        rw [if_neg (by omega)]
        obtain ⟨h4, h5⟩ := h.want hu hs (key := key) (by omega)
        have h6 : wantT E (stepT t) x key = wantT E t x key := rfl
        have hb : ((stepT t).broken || readV R.1 != wantT E (stepT t) x key) = false := by
          rw [h6, h1, h4, show (stepT t).broken = false from h.ok]
          simp
        simp only
        rw [hb]
        exact h.went hw.mid hw.later (own' := t.own) (reads' := t.reads.set x ((t.reads[x]?.getD []) ++ [(key, readV R.1)])) (n' := t.n) hol rfl (by simp) (fun i v l hi hlv hl p hp => by
          by_cases e : i = x
          · subst e
            rw [hu] at hi
            cases hi
            have hil : i < t.reads.length := by rw [h.lreads]; exact (List.getElem?_eq_some_iff.1 hu).1
            rw [List.getElem?_set_self hil] at hl
            injection hl with hl
            subst hl
            rcases List.mem_append.1 hp with hp | hp
            · cases hr : t.reads[i]? with
              | none => rw [hr] at hp; cases hp
              | some l => rw [hr] at hp; exact h.rds i _ l hu hlv hr p hp
            · rw [List.mem_singleton.1 hp]
              exact ⟨by show 0 ≤ key ∧ key < 10; omega, by show readV R.1 = _; rw [h1, h5 hlv]⟩
          · rw [List.getElem?_set_ne (fun h => e h.symm)] at hl
            exact h.rds i v l hi hlv hl p hp) (by omega)
      · rw [if_pos (by rw [e1]; decide)]
        rw [← h.ok] at go
        exact go
  | write x u key q R hu hs hk hq hR =>
    have hw := went_write h.mid hrd hu hs (key := key) (val := t.n + 1) (by omega) (by omega) hq hR
    have hov := own_of h hu hs
    unfold writeT
    rcases ol_write h.mid hown hu hs (key := key) (val := t.n + 1) (by omega) (by omega) hq hR with ⟨h1, h2⟩ | ⟨h1, h2, h3⟩
    · rw [if_pos h1]
      have := h.went hw.mid hw.later (own' := t.own) (reads' := t.reads) (n' := t.n + 1) h2 rfl rfl h.rds (by omega)
      rw [← h.ok] at this
      exact this
    · rw [if_neg (by rw [h1]; simp)]
      have hb : ((nextT (stepT t)).broken || R.1.1 != openB R.2 x) = false := by
        rw [show (nextT (stepT t)).broken = false from h.ok, h2]
        simp
      rw [hb]
      have hxl : x < t.own.length := by rw [h.lown]; exact (List.getElem?_eq_some_iff.1 hu).1
      have e : (fun i => (t.own.set x (updT (ownT t x) key (some (t.n + 1))))[i]?.getD (fun _ => none)) = (fun j => if j = x then updT (t.own[x]?.getD (fun _ => none)) key (some (t.n + 1)) else t.own[j]?.getD (fun _ => none)) := by
        funext j
        by_cases e : j = x
        · subst e
          rw [List.getElem?_set_self hxl, if_pos rfl]
          rfl
        · rw [List.getElem?_set_ne (fun h => e h.symm), if_neg e]
      exact h.went hw.mid hw.later (own' := t.own.set x (updT (ownT t x) key (some (t.n + 1)))) (reads' := t.reads) (n' := t.n + 1) (by rw [e]; exact h3) (by simp) rfl h.rds (by omega)
end

end Go.Proofs.YtjefgmeejhakbaaGreatDoor
