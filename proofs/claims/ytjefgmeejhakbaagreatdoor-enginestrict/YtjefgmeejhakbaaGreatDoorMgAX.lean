/- KtLoopA KtTellsB OrLeast OrLineW: put together for a claim. -/
import Derived.Test.YtjefgmeejhakbaaGreatDoorKtLoop
import Derived.Test.YtjefgmeejhakbaaGreatDoorMgAL
import Derived.Test.YtjefgmeejhakbaaGreatDoorMgAW
import Derived.Test.YtjefgmeejhakbaaGreatDoorOrDown
import Derived.Test.YtjefgmeejhakbaaGreatDoorOrEdgesW
import Derived.Test.YtjefgmeejhakbaaGreatDoorOrBin
/- keep's does: who is over now, over a frame of which little is known. -/
namespace Go.Proofs.YtjefgmeejhakbaaGreatDoor
open Go.RowKit

theorem arr_letters (a : Array Value) (n : Nat) (h : a.size = n) : a = ((List.range n).map (fun k => a.getD k undef)).toArray := by
  refine Array.ext (by simp [h]) (fun i h1 h2 => ?_)
  simp [Array.getD_eq_getD_getElem?, h1]
set_option maxRecDepth 1000000 in
set_option maxHeartbeats 4000000 in
theorem act_letters (a : Act) (h : a.tmps.size = 394) (hd : a.defers = []) : a = ⟨List.toArray (a.tmps.getD 0 undef :: a.tmps.getD 1 undef :: a.tmps.getD 2 undef :: a.tmps.getD 3 undef :: a.tmps.getD 4 undef :: a.tmps.getD 5 undef :: a.tmps.getD 6 undef :: a.tmps.getD 7 undef :: a.tmps.getD 8 undef :: a.tmps.getD 9 undef :: a.tmps.getD 10 undef :: a.tmps.getD 11 undef :: a.tmps.getD 12 undef :: a.tmps.getD 13 undef :: a.tmps.getD 14 undef :: a.tmps.getD 15 undef :: a.tmps.getD 16 undef :: a.tmps.getD 17 undef :: a.tmps.getD 18 undef :: a.tmps.getD 19 undef :: a.tmps.getD 20 undef :: a.tmps.getD 21 undef :: a.tmps.getD 22 undef :: a.tmps.getD 23 undef :: a.tmps.getD 24 undef :: a.tmps.getD 25 undef :: a.tmps.getD 26 undef :: a.tmps.getD 27 undef :: a.tmps.getD 28 undef :: a.tmps.getD 29 undef :: a.tmps.getD 30 undef :: a.tmps.getD 31 undef :: a.tmps.getD 32 undef :: a.tmps.getD 33 undef :: a.tmps.getD 34 undef :: a.tmps.getD 35 undef :: a.tmps.getD 36 undef :: a.tmps.getD 37 undef :: a.tmps.getD 38 undef :: a.tmps.getD 39 undef :: a.tmps.getD 40 undef :: a.tmps.getD 41 undef :: a.tmps.getD 42 undef :: a.tmps.getD 43 undef :: a.tmps.getD 44 undef :: a.tmps.getD 45 undef :: a.tmps.getD 46 undef :: a.tmps.getD 47 undef :: a.tmps.getD 48 undef :: a.tmps.getD 49 undef :: a.tmps.getD 50 undef :: a.tmps.getD 51 undef :: a.tmps.getD 52 undef :: a.tmps.getD 53 undef :: a.tmps.getD 54 undef :: a.tmps.getD 55 undef :: a.tmps.getD 56 undef :: a.tmps.getD 57 undef :: a.tmps.getD 58 undef :: a.tmps.getD 59 undef :: a.tmps.getD 60 undef :: a.tmps.getD 61 undef :: a.tmps.getD 62 undef :: a.tmps.getD 63 undef :: a.tmps.getD 64 undef :: a.tmps.getD 65 undef :: a.tmps.getD 66 undef :: a.tmps.getD 67 undef :: a.tmps.getD 68 undef :: a.tmps.getD 69 undef :: a.tmps.getD 70 undef :: a.tmps.getD 71 undef :: a.tmps.getD 72 undef :: a.tmps.getD 73 undef :: a.tmps.getD 74 undef :: a.tmps.getD 75 undef :: a.tmps.getD 76 undef :: a.tmps.getD 77 undef :: a.tmps.getD 78 undef :: a.tmps.getD 79 undef :: a.tmps.getD 80 undef :: a.tmps.getD 81 undef :: a.tmps.getD 82 undef :: a.tmps.getD 83 undef :: a.tmps.getD 84 undef :: a.tmps.getD 85 undef :: a.tmps.getD 86 undef :: a.tmps.getD 87 undef :: a.tmps.getD 88 undef :: a.tmps.getD 89 undef :: a.tmps.getD 90 undef :: a.tmps.getD 91 undef :: a.tmps.getD 92 undef :: a.tmps.getD 93 undef :: a.tmps.getD 94 undef :: a.tmps.getD 95 undef :: a.tmps.getD 96 undef :: a.tmps.getD 97 undef :: a.tmps.getD 98 undef :: a.tmps.getD 99 undef :: a.tmps.getD 100 undef :: a.tmps.getD 101 undef :: a.tmps.getD 102 undef :: a.tmps.getD 103 undef :: a.tmps.getD 104 undef :: a.tmps.getD 105 undef :: a.tmps.getD 106 undef :: a.tmps.getD 107 undef :: a.tmps.getD 108 undef :: a.tmps.getD 109 undef :: a.tmps.getD 110 undef :: a.tmps.getD 111 undef :: a.tmps.getD 112 undef :: a.tmps.getD 113 undef :: a.tmps.getD 114 undef :: a.tmps.getD 115 undef :: a.tmps.getD 116 undef :: a.tmps.getD 117 undef :: a.tmps.getD 118 undef :: a.tmps.getD 119 undef :: a.tmps.getD 120 undef :: a.tmps.getD 121 undef :: a.tmps.getD 122 undef :: a.tmps.getD 123 undef :: a.tmps.getD 124 undef :: a.tmps.getD 125 undef :: a.tmps.getD 126 undef :: a.tmps.getD 127 undef :: a.tmps.getD 128 undef :: a.tmps.getD 129 undef :: a.tmps.getD 130 undef :: a.tmps.getD 131 undef :: a.tmps.getD 132 undef :: a.tmps.getD 133 undef :: a.tmps.getD 134 undef :: a.tmps.getD 135 undef :: a.tmps.getD 136 undef :: a.tmps.getD 137 undef :: a.tmps.getD 138 undef :: a.tmps.getD 139 undef :: a.tmps.getD 140 undef :: a.tmps.getD 141 undef :: a.tmps.getD 142 undef :: a.tmps.getD 143 undef :: a.tmps.getD 144 undef :: a.tmps.getD 145 undef :: a.tmps.getD 146 undef :: a.tmps.getD 147 undef :: a.tmps.getD 148 undef :: a.tmps.getD 149 undef :: a.tmps.getD 150 undef :: a.tmps.getD 151 undef :: a.tmps.getD 152 undef :: a.tmps.getD 153 undef :: a.tmps.getD 154 undef :: a.tmps.getD 155 undef :: a.tmps.getD 156 undef :: a.tmps.getD 157 undef :: a.tmps.getD 158 undef :: a.tmps.getD 159 undef :: a.tmps.getD 160 undef :: a.tmps.getD 161 undef :: a.tmps.getD 162 undef :: a.tmps.getD 163 undef :: a.tmps.getD 164 undef :: a.tmps.getD 165 undef :: a.tmps.getD 166 undef :: a.tmps.getD 167 undef :: a.tmps.getD 168 undef :: a.tmps.getD 169 undef :: a.tmps.getD 170 undef :: a.tmps.getD 171 undef :: a.tmps.getD 172 undef :: a.tmps.getD 173 undef :: a.tmps.getD 174 undef :: a.tmps.getD 175 undef :: a.tmps.getD 176 undef :: a.tmps.getD 177 undef :: a.tmps.getD 178 undef :: a.tmps.getD 179 undef :: a.tmps.getD 180 undef :: a.tmps.getD 181 undef :: a.tmps.getD 182 undef :: a.tmps.getD 183 undef :: a.tmps.getD 184 undef :: a.tmps.getD 185 undef :: a.tmps.getD 186 undef :: a.tmps.getD 187 undef :: a.tmps.getD 188 undef :: a.tmps.getD 189 undef :: a.tmps.getD 190 undef :: a.tmps.getD 191 undef :: a.tmps.getD 192 undef :: a.tmps.getD 193 undef :: a.tmps.getD 194 undef :: a.tmps.getD 195 undef :: a.tmps.getD 196 undef :: a.tmps.getD 197 undef :: a.tmps.getD 198 undef :: a.tmps.getD 199 undef :: a.tmps.getD 200 undef :: a.tmps.getD 201 undef :: a.tmps.getD 202 undef :: a.tmps.getD 203 undef :: a.tmps.getD 204 undef :: a.tmps.getD 205 undef :: a.tmps.getD 206 undef :: a.tmps.getD 207 undef :: a.tmps.getD 208 undef :: a.tmps.getD 209 undef :: a.tmps.getD 210 undef :: a.tmps.getD 211 undef :: a.tmps.getD 212 undef :: a.tmps.getD 213 undef :: a.tmps.getD 214 undef :: a.tmps.getD 215 undef :: a.tmps.getD 216 undef :: a.tmps.getD 217 undef :: a.tmps.getD 218 undef :: a.tmps.getD 219 undef :: a.tmps.getD 220 undef :: a.tmps.getD 221 undef :: a.tmps.getD 222 undef :: a.tmps.getD 223 undef :: a.tmps.getD 224 undef :: a.tmps.getD 225 undef :: a.tmps.getD 226 undef :: a.tmps.getD 227 undef :: a.tmps.getD 228 undef :: a.tmps.getD 229 undef :: a.tmps.getD 230 undef :: a.tmps.getD 231 undef :: a.tmps.getD 232 undef :: a.tmps.getD 233 undef :: a.tmps.getD 234 undef :: a.tmps.getD 235 undef :: a.tmps.getD 236 undef :: a.tmps.getD 237 undef :: a.tmps.getD 238 undef :: a.tmps.getD 239 undef :: a.tmps.getD 240 undef :: a.tmps.getD 241 undef :: a.tmps.getD 242 undef :: a.tmps.getD 243 undef :: a.tmps.getD 244 undef :: a.tmps.getD 245 undef :: a.tmps.getD 246 undef :: a.tmps.getD 247 undef :: a.tmps.getD 248 undef :: a.tmps.getD 249 undef :: a.tmps.getD 250 undef :: a.tmps.getD 251 undef :: a.tmps.getD 252 undef :: a.tmps.getD 253 undef :: a.tmps.getD 254 undef :: a.tmps.getD 255 undef :: a.tmps.getD 256 undef :: a.tmps.getD 257 undef :: a.tmps.getD 258 undef :: a.tmps.getD 259 undef :: a.tmps.getD 260 undef :: a.tmps.getD 261 undef :: a.tmps.getD 262 undef :: a.tmps.getD 263 undef :: a.tmps.getD 264 undef :: a.tmps.getD 265 undef :: a.tmps.getD 266 undef :: a.tmps.getD 267 undef :: a.tmps.getD 268 undef :: a.tmps.getD 269 undef :: a.tmps.getD 270 undef :: a.tmps.getD 271 undef :: a.tmps.getD 272 undef :: a.tmps.getD 273 undef :: a.tmps.getD 274 undef :: a.tmps.getD 275 undef :: a.tmps.getD 276 undef :: a.tmps.getD 277 undef :: a.tmps.getD 278 undef :: a.tmps.getD 279 undef :: a.tmps.getD 280 undef :: a.tmps.getD 281 undef :: a.tmps.getD 282 undef :: a.tmps.getD 283 undef :: a.tmps.getD 284 undef :: a.tmps.getD 285 undef :: a.tmps.getD 286 undef :: a.tmps.getD 287 undef :: a.tmps.getD 288 undef :: a.tmps.getD 289 undef :: a.tmps.getD 290 undef :: a.tmps.getD 291 undef :: a.tmps.getD 292 undef :: a.tmps.getD 293 undef :: a.tmps.getD 294 undef :: a.tmps.getD 295 undef :: a.tmps.getD 296 undef :: a.tmps.getD 297 undef :: a.tmps.getD 298 undef :: a.tmps.getD 299 undef :: a.tmps.getD 300 undef :: a.tmps.getD 301 undef :: a.tmps.getD 302 undef :: a.tmps.getD 303 undef :: a.tmps.getD 304 undef :: a.tmps.getD 305 undef :: a.tmps.getD 306 undef :: a.tmps.getD 307 undef :: a.tmps.getD 308 undef :: a.tmps.getD 309 undef :: a.tmps.getD 310 undef :: a.tmps.getD 311 undef :: a.tmps.getD 312 undef :: a.tmps.getD 313 undef :: a.tmps.getD 314 undef :: a.tmps.getD 315 undef :: a.tmps.getD 316 undef :: a.tmps.getD 317 undef :: a.tmps.getD 318 undef :: a.tmps.getD 319 undef :: a.tmps.getD 320 undef :: a.tmps.getD 321 undef :: a.tmps.getD 322 undef :: a.tmps.getD 323 undef :: a.tmps.getD 324 undef :: a.tmps.getD 325 undef :: a.tmps.getD 326 undef :: a.tmps.getD 327 undef :: a.tmps.getD 328 undef :: a.tmps.getD 329 undef :: a.tmps.getD 330 undef :: a.tmps.getD 331 undef :: a.tmps.getD 332 undef :: a.tmps.getD 333 undef :: a.tmps.getD 334 undef :: a.tmps.getD 335 undef :: a.tmps.getD 336 undef :: a.tmps.getD 337 undef :: a.tmps.getD 338 undef :: a.tmps.getD 339 undef :: a.tmps.getD 340 undef :: a.tmps.getD 341 undef :: a.tmps.getD 342 undef :: a.tmps.getD 343 undef :: a.tmps.getD 344 undef :: a.tmps.getD 345 undef :: a.tmps.getD 346 undef :: a.tmps.getD 347 undef :: a.tmps.getD 348 undef :: a.tmps.getD 349 undef :: a.tmps.getD 350 undef :: a.tmps.getD 351 undef :: a.tmps.getD 352 undef :: a.tmps.getD 353 undef :: a.tmps.getD 354 undef :: a.tmps.getD 355 undef :: a.tmps.getD 356 undef :: a.tmps.getD 357 undef :: a.tmps.getD 358 undef :: a.tmps.getD 359 undef :: a.tmps.getD 360 undef :: a.tmps.getD 361 undef :: a.tmps.getD 362 undef :: a.tmps.getD 363 undef :: a.tmps.getD 364 undef :: a.tmps.getD 365 undef :: a.tmps.getD 366 undef :: a.tmps.getD 367 undef :: a.tmps.getD 368 undef :: a.tmps.getD 369 undef :: a.tmps.getD 370 undef :: a.tmps.getD 371 undef :: a.tmps.getD 372 undef :: a.tmps.getD 373 undef :: a.tmps.getD 374 undef :: a.tmps.getD 375 undef :: a.tmps.getD 376 undef :: a.tmps.getD 377 undef :: a.tmps.getD 378 undef :: a.tmps.getD 379 undef :: a.tmps.getD 380 undef :: a.tmps.getD 381 undef :: a.tmps.getD 382 undef :: a.tmps.getD 383 undef :: a.tmps.getD 384 undef :: a.tmps.getD 385 undef :: a.tmps.getD 386 undef :: a.tmps.getD 387 undef :: a.tmps.getD 388 undef :: a.tmps.getD 389 undef :: a.tmps.getD 390 undef :: a.tmps.getD 391 undef :: a.tmps.getD 392 undef :: a.tmps.getD 393 undef :: []), []⟩ := by
  obtain ⟨ts, ds⟩ := a
  simp only at h hd
  subst hd
  congr 1
  exact arr_letters ts 394 h
set_option maxRecDepth 1000000 in
set_option maxHeartbeats 4000000 in
theorem over_loop' {w0 : Gr} {w : World} {L2 : EnL} {E2 : Eng} {TL2 : TalL} {t2 : Tal} {N tb : Nat} (HTT : Hid (TaleAt w0 w L2 E2 TL2 t2)) (HEN : Hid (E2.txs.length = N)) (hle : N ≤ 200) (hTb : TL2.b = tb) (Q : Exit → Act → World → Prop)
    (hexit : ∀ (a' : Act) (w' : World), a'.defers = [] ∧ TaleAt w0 w' L2 E2 TL2 (endT E2 t2) → Q (.exit 1) a' w') (a : Act) (hsz : a.tmps.size = 394) (h0 : a.tmps.getD 0 undef = .pointer (some ⟨tb, 0, none⟩)) (h27 : a.tmps.getD 27 undef = .int .i64 0) (hd : a.defers = []) :
    Code.wp Tryz.prog (Code.loop overBody) Q a w := by
  rw [act_letters a hsz hd, h0, h27]
  exact over_loop HTT HEN hle hTb Q hexit _ _ _ _ _ _ _ _ _ _ _ _ _ _ _ _ _ _ _ _ _ _ _ _ _ _ _ _ _ _ _ _ _ _ _ _ _ _ _ _ _ _ _ _ _ _ _ _ _ _ _ _ _ _ _ _ _ _ _ _ _ _ _ _ _ _ _ _ _ _ _ _ _ _ _ _ _ _ _ _ _ _ _ _ _ _ _ _ _ _ _ _ _ _ _ _ _ _ _ _ _ _ _ _ _ _ _ _ _ _ _ _ _ _ _ _ _ _ _ _ _ _ _ _ _ _ _ _ _ _ _ _ _ _ _ _ _ _ _ _ _ _ _ _ _ _ _ _ _ _ _ _ _ _ _ _ _ _ _ _ _ _ _ _ _ _ _ _ _ _ _ _ _ _ _ _ _ _ _ _ _ _ _ _ _ _ _ _ _ _ _ _ _ _ _ _ _ _ _ _ _ _ _ _ _ _ _ _ _ _ _ _ _ _ _ _ _ _ _ _ _ _ _ _ _ _ _ _ _ _ _ _ _ _ _ _ _ _ _ _ _ _ _ _ _ _ _ _ _ _ _ _ _ _ _ _ _ _ _ _ _ _ _ _ _ _ _ _ _ _ _ _ _ _ _ _ _ _ _ _ _ _ _ _ _ _ _ _ _ _ _ _ _ _ _ _ _ _ _ _ _ _ _ _ _ _ _ _ _ _ _ _ _ _ _ _ _ _ _ _ _ _ _ _ _ _ _ _ _ _ _ _ _ _ _ _ _ _ _ _ _ _ _ _ _ _ _ _ _ _ _ _ _ _ _ _ _ _ _ _ _ _ _ _ _ _ _ _ _ _ _ _ _ _ _ _ _ _ _ _ _ _ _ _ _ _ _ _ _ _ _ _
theorem over_loop2 {w0 : Gr} {w : World} {L2 : EnL} {E2 : Eng} {TL2 : TalL} {t2 : Tal} {N tb : Nat} (HTT : Hid (TaleAt w0 w L2 E2 TL2 t2)) (HEN : Hid (E2.txs.length = N)) (hle : N ≤ 200) (hTb : TL2.b = tb) (Q : Exit → Act → World → Prop)
    (hexit : ∀ (a' : Act) (w' : World), a'.defers = [] ∧ TaleAt w0 w' L2 E2 TL2 (endT E2 t2) → Q (.exit 1) a' w') (a : Act) (hsz : a.tmps.size = 394) (h0 : a.tmps.getD 0 undef = .pointer (some ⟨tb, 0, none⟩)) :
    Code.wp Tryz.prog (Code.loop overBody) Q ⟨a.tmps.setIfInBounds 27 (.int .i64 0), []⟩ w :=
  over_loop' HTT HEN hle hTb Q hexit ⟨a.tmps.setIfInBounds 27 (.int .i64 0), []⟩ (by simpa using hsz) ((getD_put_ne (a := a) (d := 0) (e := 27) (v := .int .i64 0) (by decide)).trans h0) (getD_put_same (a := a) (d := 27) (v := .int .i64 0) (by rw [hsz]; decide)) rfl

end Go.Proofs.YtjefgmeejhakbaaGreatDoor

/- Plain: each act keeps what a tale tells. -/
namespace Go.Proofs.YtjefgmeejhakbaaGreatDoor

section
variable {a0 : Int} {K0 : Int → Option Int} {Φ : Eng → (Nat → Prop) → Prop} {E : Eng} {i : Nat} {t : Tx} {key val : Int} {q : Int → Nat}
theorem write_ok2 (hG : Goes a0 K0 Φ) (h : Mid a0 K0 E.ce noQ) (ht : E.txs[i]? = some t) (hs : t.state = 0) (hk : 0 ≤ key ∧ key < 10) (hv : -1099511627776 ≤ val ∧ val ≤ 1099511627776) (hq : Ranked E.T q)
    (hP1 : Φ (overE (loseE (wantE E i t key val E.T) i 11) i 3) (outQ E.T i))
    (hP4 : ∀ T' why E2, (T' = E.T ∨ T' = updT E.T key [(i : Int) + 1]) → (why = 10 ∨ why = 13) → putE (wantE E i t key val T') i = (why, E2) → Φ (overE (loseE E2 i why) i 3) (outQ T' i)) :
    ∃ R, writeE 7 q E i key val = some R ∧ Mid a0 K0 R.2.ce noQ ∧ (R.1.2 ≠ 0 → Φ R.2 noQ) ∧ R.2.ce.live ≤ E.ce.live ∧
      ((R.1 = (false, 11)) ∨ (R.1 = (false, 0) ∧ R.2 = (wantE E i t key val (updT E.T key (E.T key ++ [(i : Int) + 1]))).setTx i { t with wk := key, wv := val, state := 1 }) ∨ (R.1 = (true, 0) ∧ ∃ T', putE (wantE E i t key val T') i = (0, R.2)) ∨ R.1 = (false, 10) ∨ R.1 = (false, 13)) := by
  have hl : liveB t.state = true := live_iff.2 (.inl hs)
  have hi : i < E.txs.length := (List.getElem?_eq_some_iff.1 ht).1
  have hlen : E.ce.cs.length = E.txs.length := by simp [Eng.ce]
  have h200 := h.reg.len
  have hW := h.want (k := key) (v := val) (cs_get ht) hs hk hv
  have hwa := h.loc.open_waits (cs_get ht) hs
  have hgd : Good (askP E.T q ((i : Int) + 1) key).2.2 := h.loc.good.ask hq ((i : Int) + 1) key (by omega)
  have key' : ∀ T', (T' = E.T ∨ T' = updT E.T key [(i : Int) + 1]) → Mid a0 K0 (wantE E i t key val T').ce noQ → holdsP T' key = (i : Int) + 1 →
      ∃ R, (writeR (endF 7) (wantE E i t key val T') i).map (fun R => ((decide (R.1 = 0), R.1), R.2)) = some R ∧ Mid a0 K0 R.2.ce noQ ∧ (R.1.2 ≠ 0 → Φ R.2 noQ) ∧ R.2.ce.live ≤ E.ce.live ∧ ((R.1 = (true, 0) ∧ putE (wantE E i t key val T') i = (0, R.2)) ∨ R.1 = (false, 10) ∨ R.1 = (false, 13)) := by
    intro T' hT' hM' hh
    have hg := want_get (key := key) (val := val) ht T'
    have hlv : (wantE E i t key val T').ce.live = E.ce.live := by rw [want_ce]; exact count_live (cs_get ht) hl hl
    rcases hp : putE (wantE E i t key val T') i with ⟨why, E2⟩
    have hcg := cs_get hg
    rcases ce_put hg hp with ⟨rfl, rfl, _, _⟩ | ⟨hy, hn, he⟩
    · obtain ⟨E', e1, e2, e3, e4⟩ := lose_ok (E := wantE E i t key val T') (why := 10) hG hM' hg hl (hP4 T' 10 _ hT' (.inl rfl) hp)
      refine ⟨((false, 10), E'), ?_, e2, fun _ => e3, by show E'.ce.live ≤ _; omega, .inr (.inl rfl)⟩
      unfold writeR
      rw [hp]
      simp [e1]
    · have hM2 : Mid a0 K0 E2.ce noQ := by rw [he]; exact hM'.putOpen hcg hs hh hn
      have hl2 : E2.ce.live = E.ce.live := by
        rw [← hlv, he]
        exact count_live hcg hl hl
      rcases hy with rfl | rfl
      · refine ⟨((true, 0), E2), ?_, hM2, fun h => absurd rfl h, by show E2.ce.live ≤ _; omega, .inl ⟨rfl, rfl⟩⟩
        unfold writeR
        rw [hp]
        simp
      · obtain ⟨u, hu, e⟩ : ∃ u, E2.txs[i]? = some u ∧ cor u = _ := cs_of (by rw [he]; exact set_same hcg)
        have hus : u.state = 0 := by have := congrArg Cor.state e; exact this.trans hs
        have hT2 : E2.T = T' := congrArg CE.T he
        obtain ⟨E', e1, e2, e3, e4⟩ := lose_ok (E := E2) (why := 13) hG hM2 hu (by rw [hus]; rfl) (by rw [hT2]; exact hP4 T' 13 E2 hT' (.inr rfl) hp)
        refine ⟨((false, 13), E'), ?_, e2, fun _ => e3, by show E'.ce.live ≤ _; omega, .inr (.inr rfl)⟩
        unfold writeR
        rw [hp]
        simp [e1]
  unfold writeE
  rw [ht]
  simp only
  rw [if_neg (by omega), if_neg (by omega)]
  rcases ask_cases (T := E.T) (q := q) (tx := (i : Int) + 1) hk (by omega) hwa with ⟨h1, e⟩ | ⟨h1, h2, e⟩ | ⟨h1, h2, e⟩ | ⟨h1, h2, e⟩
  · rw [e] at hgd ⊢
    simp only [ne_eq, not_true_eq_false, if_false, Bool.true_eq_false]
    have hM' : Mid a0 K0 (wantE E i t key val E.T).ce noQ := by rw [want_ce]; exact hW
    obtain ⟨R, r1, r2, r3, r4, r5⟩ := key' E.T (.inl rfl) hM' h1
    exact ⟨R, r1, r2, r3, r4, r5.elim (fun h => .inr (.inr (.inl ⟨h.1, _, h.2⟩))) (fun h => .inr (.inr (.inr h)))⟩
  · rw [e] at hgd ⊢
    simp only [ne_eq, not_true_eq_false, if_false, Bool.true_eq_false]
    have hM' : Mid a0 K0 (wantE E i t key val (updT E.T key [(i : Int) + 1])).ce noQ := by
      rw [want_ce]
      exact hW.take (set_same (cs_get ht)) hs h2 hgd
    obtain ⟨R, r1, r2, r3, r4, r5⟩ := key' _ (.inr rfl) hM' (by unfold holdsP; rw [updT_same]; rfl)
    exact ⟨R, r1, r2, r3, r4, r5.elim (fun h => .inr (.inr (.inl ⟨h.1, _, h.2⟩))) (fun h => .inr (.inr (.inr h)))⟩
  · rw [e] at hgd ⊢
    simp only [ne_eq, show ((11 : Int) = 0) = False from by simp, not_false_eq_true, if_true]
    have hM' : Mid a0 K0 (wantE E i t key val E.T).ce noQ := by rw [want_ce]; exact hW
    have hlv : (wantE E i t key val E.T).ce.live = E.ce.live := by rw [want_ce]; exact count_live (cs_get ht) hl hl
    obtain ⟨E', e1, e2, e3, e4⟩ := lose_ok (E := wantE E i t key val E.T) (why := 11) hG hM' (want_get ht _) hl hP1
    refine ⟨((false, 11), E'), ?_, e2, fun _ => e3, by show E'.ce.live ≤ _; omega, .inl rfl⟩
    rw [show endF 7 (loseE { (E.setTx i { t with wk := key, wv := val }) with T := E.T } i 11) i 3 = some E' from e1]
    rfl
  · rw [e] at hgd ⊢
    simp only [ne_eq, not_true_eq_false, if_false, if_true]
    refine ⟨_, rfl, ?_, fun h => absurd rfl h, ?_, .inr (.inl ⟨rfl, rfl⟩)⟩
    · show Mid a0 K0 ((wantE E i t key val (updT E.T key (E.T key ++ [(i : Int) + 1]))).setTx i { t with wk := key, wv := val, state := 1 }).ce noQ
      rw [ce_set, want_ce]
      have := hW.stand (set_same (cs_get ht)) hs h2 hgd
      simp only [List.set_set] at this ⊢
      exact this
    · show ((wantE E i t key val (updT E.T key (E.T key ++ [(i : Int) + 1]))).setTx i { t with wk := key, wv := val, state := 1 }).ce.live ≤ _
      rw [ce_set, want_ce]
      simp only [List.set_set]
      exact Nat.le_of_eq (count_live (cs_get ht) hl (by rfl))
end

theorem over_len {E : Eng} {i : Nat} {t : Tx} (ht : E.txs[i]? = some t) (why : Int) : (overE (loseE E i why) i 3).txs.length = E.txs.length := by
  obtain ⟨u, hu, e⟩ := lose_get (why := why) ht
  have h := congrArg (fun C : CE => C.cs.length) (ce_over hu 3)
  rw [ce_lose] at h
  simpa [Eng.ce] using h
theorem goes_len (a0 : Int) (K0 : Int → Option Int) (n : Nat) : Goes a0 K0 (fun E _ => E.txs.length = n) := by
  have key : ∀ (E : Eng) (Q : Nat → Prop) (j : Nat) (why : Int) (E2 : Eng), Mid a0 K0 E.ce Q → Q j → putE (wakeE E j) j = (why, E2) → E2.txs.length = E.txs.length ∧ ∃ v, E2.txs[j]? = some v := fun E Q j why E2 hM hq hp => by
    obtain ⟨u, hu, h1, _⟩ := hM.loc.pend j hq
    obtain ⟨t, ht, rfl⟩ := cs_of hu
    have hw : (wakeE E j).txs[j]? = some { t with state := 0 } := by unfold wakeE; rw [Eng.upd_some ht]; exact setTx_get ht
    have hwl : (wakeE E j).txs.length = E.txs.length := by unfold wakeE; rw [Eng.upd_some ht]; simp [Eng.setTx]
    rcases ce_put hw hp with ⟨rfl, rfl, _, _⟩ | ⟨hy, hn, he⟩
    · exact ⟨hwl, _, hw⟩
    · have hl : E2.ce.cs.length = (wakeE E j).ce.cs.length := by rw [he]; simp
      simp only [Eng.ce, List.length_map] at hl
      obtain ⟨v, hv, _⟩ := cs_of (E := E2) (i := j) (by rw [he]; exact set_same (cs_get hw))
      exact ⟨hl.trans hwl, v, hv⟩
  refine ⟨fun E Q j E2 hM hP hq hp => (key E Q j 0 E2 hM hq hp).1.trans hP, fun E Q j why E2 hM hP hq hp hy => ?_⟩
  obtain ⟨h1, v, hv⟩ := key E Q j why E2 hM hq hp
  exact (over_len hv why).trans (h1.trans hP)

def OwnLen (own : Nat → Int → Option Int) (n : Nat) (E : Eng) (_ : Nat → Prop) : Prop := OwnOk own E.ce ∧ E.txs.length = n
theorem goes_ol (a0 : Int) (K0 : Int → Option Int) (own : Nat → Int → Option Int) (n : Nat) : Goes a0 K0 (OwnLen own n) := goes_and (goes_own a0 K0 own) (goes_len a0 K0 n)
section
variable {E E' : Eng} {i : Nat} {u : Tx} {own : Nat → Int → Option Int}
theorem ol_commit (hM : Mid0 E) (ho : OwnOk own E.ce) (hu : E.txs[i]? = some u) (hs : u.state = 0) {R : Int × Eng} (hR : commitE 7 E i = some R) : OwnLen own E.txs.length R.2 noQ := by
  have hl : liveB u.state = true := live_iff.2 (.inl hs)
  by_cases hb : Between u.ahead u.behind
  · obtain ⟨E', h1, h2, h3, h4⟩ := commit_bad (goes_ol 0 (fun _ => none) own E.txs.length) hM hu hl hb ⟨own_gone hu ho 13, over_len hu 13⟩
    rw [h1] at hR
    injection hR with hR
    subst hR
    exact h3
  · have ht' : ({ (installE E i) with com := E.com ++ [i] } : Eng).txs[i]? = some u := by show (installE E i).txs[i]? = _; rw [inst_txs]; exact hu
    have he := ce_over ht' 2
    have hcs : (overE { (installE E i) with com := E.com ++ [i] } i 2).ce.cs = E.ce.cs.set i { cor u with state := 2 } := by
      rw [he]
      show (((installE E i).txs.map cor).set i _) = _
      rw [inst_txs]
      rfl
    obtain ⟨E', h1, h2, h3, h4⟩ := commit_ok (goes_ol 0 (fun _ => none) own E.txs.length) hM hu hl hb ⟨own_other ho hcs (fun h => by cases h), by
      have := congrArg List.length hcs
      simpa [Eng.ce] using this⟩
    rw [h1] at hR
    injection hR with hR
    subst hR
    exact h3
theorem ol_abort (hM : Mid0 E) (ho : OwnOk own E.ce) (hu : E.txs[i]? = some u) (hl : liveB u.state = true) (hR : endF 7 (loseE E i 0) i 3 = some E') : OwnLen own E.txs.length E' noQ := by
  obtain ⟨E2, h1, h2, h3, h4⟩ := lose_ok (goes_ol 0 (fun _ => none) own E.txs.length) hM hu hl (why := 0) ⟨own_gone hu ho 0, over_len hu 0⟩
  rw [h1] at hR
  injection hR with hR
  subst hR
  exact h3
theorem ol_read (hM : Mid0 E) (ho : OwnOk own E.ce) (hu : E.txs[i]? = some u) (hs : u.state = 0) {key : Int} (hk : 0 ≤ key ∧ key < 10) {R : (Int × Int) × Eng} (hR : readE 7 E i key = some R) :
    OwnLen own E.txs.length R.2 noQ ∧ ((∃ v, u.vals key = some v ∧ R = ((v, 0), E)) ∨ (u.vals key = none ∧ ((R.1 = ((verP E key (seesP E u)).1.2, (verP E key (seesP E u)).2) ∧ R.2.ce = E.ce) ∨ R.1 = (0, 13)))) := by
  cases hv : u.vals key with
  | some v =>
    have e : R = ((v, 0), E) := by
      unfold readE at hR
      rw [hu] at hR
      simp only at hR
      rw [hv] at hR
      injection hR with hR
      exact hR.symm
    subst e
    exact ⟨⟨ho, rfl⟩, .inl ⟨v, rfl, rfl⟩⟩
  | none =>
    have hnl : (noteE E i u key).txs.length = E.txs.length := by unfold noteE; simp [Eng.setTx]
    have aow : ∀ b E2, aowP (noteE E i u key) i key = (b, E2) → E2.ce = E.ce := fun b E2 ha => by
      have h6 := ce_aow (noteE E i u key) i key
      rw [ha] at h6
      exact h6.trans (ce_note hu)
    have lenc : ∀ E2 : Eng, E2.ce = E.ce → E2.txs.length = E.txs.length := fun E2 h => by
      have := congrArg (fun C : CE => C.cs.length) h
      simpa [Eng.ce] using this
    obtain ⟨R', h1, h2, h3, h4, _⟩ := read_ok (goes_ol 0 (fun _ => none) own E.txs.length) hM hu hs hk hv (fun _ => ⟨by rw [ce_note hu]; exact ho, hnl⟩) (fun E2 _ ha => ⟨by rw [aow _ _ ha]; exact ho, lenc _ (aow _ _ ha)⟩) (fun E2 _ ha => by
      obtain ⟨v, hv2, e⟩ : ∃ v, E2.txs[i]? = some v ∧ cor v = cor u := cs_of (by rw [aow _ _ ha]; exact cs_get hu)
      exact ⟨own_gone hv2 (by rw [aow _ _ ha]; exact ho) 13, (over_len hv2 13).trans (lenc _ (aow _ _ ha))⟩)
    rw [h1] at hR
    injection hR with hR
    subst hR
    exact ⟨h3, .inr ⟨rfl, h4⟩⟩
theorem ol_write (hM : Mid0 E) (ho : OwnOk own E.ce) (hu : E.txs[i]? = some u) (hs : u.state = 0) {key val : Int} (hk : 0 ≤ key ∧ key < 10) (hv : -1099511627776 ≤ val ∧ val ≤ 1099511627776) {q : Int → Nat} (hq : Ranked E.T q) {R : (Bool × Int) × Eng} (hR : writeE 7 q E i key val = some R) :
    (R.1.2 ≠ 0 ∧ OwnLen own E.txs.length R.2 noQ) ∨ (R.1.2 = 0 ∧ R.1.1 = openB R.2 i ∧ OwnLen (fun j => if j = i then updT (own i) key (some val) else own j) E.txs.length R.2 noQ) := by
  have hl : liveB u.state = true := live_iff.2 (.inl hs)
  have hown := ho i _ (cs_get hu) hl
  rw [if_neg (show ¬ (cor u).state = 1 from by show ¬ u.state = 1; omega)] at hown
  have hown' : own i = u.vals := hown
  have hwl : ∀ T', (wantE E i u key val T').txs.length = E.txs.length := fun T' => by unfold wantE; simp [Eng.setTx]
  have hwo : ∀ T', OwnOk own (wantE E i u key val T').ce := fun T' => by
    rw [want_ce]
    exact own_other (t' := { cor u with wk := key, wv := val }) ho rfl (fun _ => by
      show own i = if u.state = 1 then _ else u.vals
      rw [if_neg (show ¬ u.state = 1 by omega)]; exact hown')
  obtain ⟨R', h1, _, h3, _, h5⟩ := write_ok2 (goes_ol 0 (fun _ => none) own E.txs.length) hM hu hs hk hv hq
    ⟨own_gone (want_get (key := key) (val := val) hu E.T) (hwo E.T) 11, (over_len (want_get (key := key) (val := val) hu E.T) 11).trans (hwl _)⟩
    (fun T' why E2 _ _ hp => by
      have hg := want_get (key := key) (val := val) hu T'
      rcases ce_put hg hp with ⟨rfl, rfl, _, _⟩ | ⟨hy, hn, he⟩
      · exact ⟨own_gone hg (hwo T') 10, (over_len hg 10).trans (hwl _)⟩
      · obtain ⟨v, hv2, e⟩ := cs_of (E := E2) (i := i) (by rw [he]; exact set_same (cs_get hg))
        have hl2 : E2.txs.length = E.txs.length := by
          have := congrArg (fun C : CE => C.cs.length) he
          simp only [List.length_set] at this
          have h2 : E2.ce.cs.length = E2.txs.length := by simp [Eng.ce]
          have h3 : (wantE E i u key val T').ce.cs.length = (wantE E i u key val T').txs.length := by simp [Eng.ce]
          rw [← h2, this, h3, hwl]
        exact ⟨own_gone2 hv2 (hwo T') (fun m hm => by rw [he]; exact set_ne hm) why, (over_len hv2 why).trans hl2⟩)
  rw [h1] at hR
  injection hR with hR
  subst hR
  have bad : R'.1.2 ≠ 0 → (R'.1.2 ≠ 0 ∧ OwnLen own E.txs.length R'.2 noQ) := fun h => ⟨h, h3 h⟩
  rcases h5 with h5 | ⟨h5, h6⟩ | ⟨h5, T', h6⟩ | h5 | h5
  · exact .inl (bad (by rw [h5]; decide))
  · refine .inr ⟨by rw [h5], ?_, ?_⟩
    · rw [h5, h6]
      unfold openB
      rw [show ((wantE E i u key val (updT E.T key (E.T key ++ [(i : Int) + 1]))).setTx i { u with wk := key, wv := val, state := 1 }).txs[i]? = some { u with wk := key, wv := val, state := 1 } from setTx_get (want_get (key := key) (val := val) hu _)]
      rfl
    · rw [h6]
      refine ⟨?_, by simp [Eng.setTx]; exact hwl _⟩
      intro j v hj hlv
      rw [ce_set, want_ce] at hj
      simp only [List.set_set] at hj
      rcases set_cases hj with ⟨rfl, rfl⟩ | ⟨hne, hj⟩
      · show (if j = j then _ else _) = _
        rw [if_pos rfl, hown']
        rfl
      · show (if j = i then _ else _) = _
        rw [if_neg hne]
        exact ho j v hj hlv
  · have hg := want_get (key := key) (val := val) hu T'
    rcases ce_put hg h6 with ⟨h, _⟩ | ⟨hy, hn, he⟩
    · cases h
    · refine .inr ⟨by rw [h5], ?_, ?_, ?_⟩
      · obtain ⟨v, hv2, e⟩ := cs_of (E := R'.2) (i := i) (by rw [he]; exact set_same (cs_get hg))
        rw [h5]
        unfold openB
        rw [hv2]
        have h7 : v.state = u.state := congrArg Cor.state e
        simp [h7, hs]
      · intro j v hj hlv
        rw [he, want_ce] at hj
        simp only [List.set_set] at hj
        rcases set_cases hj with ⟨rfl, rfl⟩ | ⟨hne, hj⟩
        · show (if j = j then _ else _) = if u.state = 1 then _ else updT u.vals key (some val)
          rw [if_pos rfl, hown', if_neg (show ¬ u.state = 1 by omega)]
        · show (if j = i then _ else _) = _
          rw [if_neg hne]
          exact ho j v hj hlv
      · have := congrArg (fun C : CE => C.cs.length) he
        simp only [List.length_set] at this
        have h2 : R'.2.ce.cs.length = R'.2.txs.length := by simp [Eng.ce]
        have h3 : (wantE E i u key val T').ce.cs.length = (wantE E i u key val T').txs.length := by simp [Eng.ce]
        rw [← h2, this, h3, hwl]
  · exact .inl (bad (by rw [h5]; decide))
  · exact .inl (bad (by rw [h5]; decide))
end

end Go.Proofs.YtjefgmeejhakbaaGreatDoor

/- container/heap.Pop over the queue; least. -/
namespace Go.Proofs.YtjefgmeejhakbaaGreatDoor
open Go.RowKit
open Go.Sort (swp swp_left swp_right swp_other size_swp)

theorem pop_get {d : Array Int} {n : Nat} (hn : d.size = n + 1) (k : Nat) (hk : k < n) : d.pop[k]! = d[k]! := by
  simp [hk, hn, show k < n + 1 by omega]
theorem pop_list {d : Array Int} {n : Nat} (hn : d.size = n + 1) : d.toList = d.pop.toList ++ [d[n]!] := by
  apply List.ext_getElem?
  intro k
  rw [List.getElem?_append]
  by_cases hk : k < n
  · rw [if_pos (by simp [hn]; exact hk)]
    simp [hn, hk]
  · by_cases e : k = n
    · subst e; simp [hn]
    · rw [if_neg (by simp [hn]; omega)]
      simp [hn, show ¬ k < n + 1 by omega, show k - n ≠ 0 by omega]

set_option maxRecDepth 100000 in
set_option maxHeartbeats 600000 in
theorem heapPop_any (Q : Nat) (v : Value) (d : Array Int) (w : World) (h : QAt w Q v d) (hd : d.size ≤ 10000) (h0 : 0 < d.size) (hh : HeapP d d.size) :
    Calls Tryz.prog 127 #[.iface 148 (.pointer (some ⟨Q, 0, none⟩))] w fun e w' => ∃ u, e = .returned u ∧ ∃ v' d', QAt w' Q v' d' ∧ HeapP d' d'.size ∧ (d[0]! :: d'.toList).Perm d.toList ∧ KeptO (qOwn Q v) (qOwn Q v') w w' := by
  obtain ⟨n, hn⟩ : ∃ n, d.size = n + 1 := ⟨d.size - 1, by omega⟩
  obtain ⟨g, cap, rfl, hg, hfz, hc⟩ := h.rowAt h0
  have hmL := mLen h.cell
  have hmS := mSwap h.cell
  have hmP := mPop Q
  have c1 := hc 0 h0
  have c2 := hc n (by omega)
  have f1 := hfz 0
  have f2 := hfz n
  have H0 := hid h
  have HH := hid hh
  have HN := hid hn
  have hn1 : n ≤ 10000 := by omega
  rw [hn] at hmL hmS
  obtain ⟨x, hx⟩ : ∃ x, d[0]! = x := ⟨_, rfl⟩
  obtain ⟨y, hy⟩ : ∃ y, d[n]! = y := ⟨_, rfl⟩
  have HX := hid hx
  have HY := hid hy
  rw [hx] at c1
  rw [hy] at c2
  rw [hx]
  clear h hh hc hfz hn hx hy
  go_enter Tryz.func127, Tryz.ntmps127
  go_wp2_with fail
  refine (qLen (some ⟨g, 0, none⟩) (n + 1) cap w).mono ?_
  rintro e w1 ⟨rfl, rfl⟩
  go_wp2_with fail
  refine (qSwapI g (n + 1) cap 0 n _ _ x y w1 (by omega) (by omega) (by omega) (by omega) c1 c2 f1 f2).mono ?_
  rintro e w2 ⟨rfl, q, rfl⟩
  have hsw := H0.out.swapped (g := g) (i := 0) (j := n) rfl q
  rw [HX.out, HY.out] at hsw
  generalize ((w1.setCell ⟨g, 0, none⟩ (.int .i64 y)).setCell ⟨g, n, none⟩ (.int .i64 x)).drewN q = w2 at hsw ⊢
  have HS := hid hsw
  clear hsw
  go_wp2_with fail
  refine (down_any Q _ (swp d 0 n) n w2 HS.out.1 (by rw [size_swp]; omega) (by rw [size_swp]; exact HN.out) (down_start (by rw [← HN.out]; exact HH.out))).mono ?_
  rintro e w3 ⟨b, rfl, d2, hQ2, hz2, hh2, hl2, hp2, hK2⟩
  have HD := hid (And.intro hQ2 (And.intro hz2 (And.intro hh2 (And.intro hl2 (And.intro hp2 hK2)))))
  clear hQ2 hz2 hh2 hl2 hp2 hK2
  go_wp2_with fail
  refine (qPop Q _ d2 w3 HD.out.1 (by rw [HD.out.2.1]; have := HN.out; omega) (by rw [HD.out.2.1]; omega)).mono ?_
  rintro e w4 ⟨u, rfl, v4, hQ4, hK4⟩
  have H4 := hid (And.intro hQ4 hK4)
  clear hQ4 hK4
  go_wp2
  go_ret
  obtain ⟨_, hz2, hh2, hl2, hp2, hK2⟩ := HD.out
  refine ⟨u, rfl, v4, d2.pop, H4.out.1, ?_, ?_, (HS.out.2.trans hK2).trans H4.out.2⟩
  · have hz : d2.pop.size = n := by rw [Array.size_pop, hz2]; rfl
    rw [hz]
    intro k hk0 hkn
    rw [pop_get hz2 _ (by omega), pop_get hz2 _ hkn]
    exact hh2 k hk0 hkn
  · have e1 : d2[n]! = x := by
      rw [hl2, Go.Sort.swp_right d 0 n (by rw [HN.out]; omega)]; exact HX.out
    have e2 := pop_list hz2
    rw [e1] at e2
    have p1 := hp2.trans (swp_perm d 0 n (by rw [HN.out]; omega) (by rw [HN.out]; omega))
    rw [e2] at p1
    exact (List.perm_append_singleton x d2.pop.toList).symm.trans p1

set_option maxRecDepth 100000 in
set_option maxHeartbeats 1000000 in
theorem least_any (Q : Nat) (v : Value) (d : Array Int) (w : World) (h : QAt w Q v d) (hd : d.size ≤ 10000) (h0 : 0 < d.size) (hh : HeapP d d.size) :
    Calls Tryz.prog 70 #[.pointer (some ⟨Q, 0, none⟩)] w fun e w' => e = .returned (.int .i64 d[0]!) ∧ ∃ v' d', QAt w' Q v' d' ∧ HeapP d' d'.size ∧ (d[0]! :: d'.toList).Perm d.toList ∧ KeptO (qOwn Q v) (qOwn Q v') w w' := by
  obtain ⟨g, cap, rfl, hg, hfz, hc⟩ := h.rowAt h0
  have c0 := h.cell
  have c1 := hc 0 h0
  obtain ⟨x, hx⟩ : ∃ x, d[0]! = x := ⟨_, rfl⟩
  have HX := hid hx
  have hd0 : (0 : Int) < (d.size : Int) := by omega
  rw [hx] at c1 ⊢
  have hcon := heapPop_any Q _ d w h hd h0 hh
  rw [hx] at hcon
  have HC := hid hcon
  clear h hh hc hfz hcon hx
  go_enter Tryz.func70, Tryz.ntmps70
  go_wp2_with fail
  refine HC.out.mono ?_
  rintro e w1 ⟨u, rfl, v', d', hF⟩
  have HF := hid hF
  clear hF
  go_wp2
  go_ret
  exact ⟨rfl, v', d', HF.out⟩

end Go.Proofs.YtjefgmeejhakbaaGreatDoor

/- order.Line. -/
namespace Go.Proofs.YtjefgmeejhakbaaGreatDoor
open Go.RowKit

theorem cnt_all {E : List (Int × Int)} {left : List Int} (h : ∀ a b, (a, b) ∈ E → a ∈ left) (y : Int) : cntP E left y = E.countP (fun e => e.2 == y) := by
  unfold cntP
  refine List.countP_congr (fun e he => ?_)
  have := h e.1 e.2 he
  simp [this]
theorem KS.start {l : List Opp} {E : List (Int × Int)} (hE : IsEdges l E) {q : List Int} (hq : q.Nodup) (hm : ∀ y, y ∈ q ↔ y ∈ txsP l ∧ E.countP (fun e => e.2 == y) = 0) :
    KS E (txsP l) (fun y => if y ∈ txsP l then some ((E.countP (fun e => e.2 == y) : Nat) : Int) else none) q := by
  have hc := cnt_all (E := E) (left := txsP l) (fun a b hab => (edges_tx hE hab).1)
  exact ⟨fun y => by rw [hc], fun y => by rw [hm y, ← cnt_free, hc], hq, nodup_txs l, fun a b hab _ => (edges_tx hE hab).2⟩
theorem aMap_txs (l : List Opp) (E : List (Int × Int)) : aMap (l.map (fun o => o.1)) E = fun y => (if y ∈ txsP l then some ((E.countP (fun e => e.2 == y) : Nat) : Int) else none).map (Value.int .i64) := by
  funext y
  unfold aMap
  have : y ∈ txsP l ↔ y ∈ l.map (fun o => o.1) := by unfold txsP; exact mem_once _
  by_cases h : y ∈ l.map (fun o => o.1)
  · rw [if_pos h, if_pos (this.2 h)]; rfl
  · rw [if_neg h, if_neg (fun h2 => h (this.1 h2))]; rfl
theorem nodup_le_of_subset {q s : List Int} (hq : q.Nodup) (h : ∀ y ∈ q, y ∈ s) : q.length ≤ s.length := by
  induction q generalizing s with
  | nil => simp
  | cons a r ih =>
    obtain ⟨h1, h2⟩ := List.nodup_cons.1 hq
    have ha := h a (by simp)
    have := ih (s := s.erase a) h2 (fun y hy => by
      have hya : y ≠ a := fun e => h1 (e ▸ hy)
      exact (List.mem_erase_of_ne hya).2 (h y (List.mem_cons_of_mem _ hy)))
    rw [List.length_erase_of_mem ha] at this
    have hp := List.length_pos_of_mem ha
    simp only [List.length_cons]
    omega

theorem imap_len {w : World} {b n : Nat} {f : Int → Option Value} (h : IMap w b n f) (ty : TypeId) : ∃ k : Nat, (Builtin.len_ #[69] ty #[.map (some b)]).run Tryz.prog w = .ok (.int .i64 k) w ∧ (k = 0 ↔ ∀ y, I64 y → f y = none) := by
  obtain ⟨D, hD, hf⟩ := h
  refine ⟨Maps.size D, hD.len Tryz.underlying69 ty, ?_⟩
  obtain ⟨w', _, r1, _, _⟩ := hD.range lawI Tryz.underlying69
  rcases r1.next lawI ty with ⟨h0, hl, _⟩ | ⟨key, v, kl, y, w2, cnt2, hkey, hlk, _, _, _, _, hlt, _⟩
  · constructor
    · intro _ y _
      have h1 := (hf y).1
      rw [hl] at h1
      cases hh : f y with
      | none => rfl
      | some u => rw [hh] at h1; cases h1
    · intro _; exact h0
  · obtain ⟨x, _, rfl, hwf⟩ := Maps.keyOf_int_inv Tryz.underlying3 hkey
    have h1 := (hf x).1
    rw [hlk] at h1
    constructor
    · intro h2; omega
    · intro h2
      have hx : I64 x := by
        simp [Lit.wf, IntKind.min, IntKind.max, IntKind.signed, IntKind.bits] at hwf
        unfold I64
        omega
      rw [h2 x hx] at h1
      cases h1

structure LSt (w wr : World) (tv : Value) (E : List (Int × Int)) (b nb : Nat) (f : Int → Option Value) (Q : Nat) (qv : Value) (d : Array Int) (ov : Value) (out : List Int) : Prop where
  t : wr.ownsRow w.heap.size 78 2 tv E.length (vrow E)
  m : IMap wr b nb f
  q : QAt wr Q qv d
  o : wr.ownsRow w.heap.size 3 1 ov out.length (intsV out)
  hd : ∀ g, qv.ownBlock = some g → ov.ownBlock ≠ some g
  bel : Below w.heap.size w wr
  bb : w.heap.size ≤ b
  bq : ∀ g, qOwn Q qv g → w.heap.size ≤ g

theorem row_block {w : World} {N : Nat} {e : TypeId} {size : Nat} {v : Value} {n : Nat} {xs : List Value} (h : w.ownsRow N e size v n xs) {g : Nat} (hg : v.ownBlock = some g) : ∃ cur, w.heap[g]? = some (.cells cur e (0, 0)) := by
  rcases h.2 with ⟨e1, _⟩ | ⟨g', cap, cur, e1, _, hc, _⟩
  · rw [e1] at hg; cases hg
  · rw [e1] at hg; cases hg; exact ⟨cur, hc⟩

section
variable {w wr w' : World} {tv : Value} {E : List (Int × Int)} {b nb : Nat} {f : Int → Option Value} {Q : Nat} {qv : Value} {d : Array Int} {ov : Value} {out : List Int}
theorem LSt.tq (h : LSt w wr tv E b nb f Q qv d ov out) {g : Nat} (hg : tv.ownBlock = some g) : ¬ qOwn Q qv g := fun hq => by
  obtain ⟨c1, h1⟩ := row_block h.t hg
  rcases hq with rfl | e
  · rw [h.q.blk] at h1; simp at h1
  · obtain ⟨c2, h2⟩ := row_block h.q.row e
    rw [h1] at h2; simp at h2
theorem LSt.to (h : LSt w wr tv E b nb f Q qv d ov out) {g : Nat} (hg : tv.ownBlock = some g) : ov.ownBlock ≠ some g := fun e => by
  obtain ⟨c1, h1⟩ := row_block h.t hg
  obtain ⟨c2, h2⟩ := row_block h.o e
  rw [h1] at h2; simp at h2
theorem LSt.oq (h : LSt w wr tv E b nb f Q qv d ov out) {g : Nat} (hg : ov.ownBlock = some g) : ¬ qOwn Q qv g := fun hq => by
  obtain ⟨c1, h1⟩ := row_block h.o hg
  rcases hq with rfl | e
  · rw [h.q.blk] at h1; simp at h1
  · exact h.hd g e hg
theorem LSt.bn (h : LSt w wr tv E b nb f Q qv d ov out) : ¬ qOwn Q qv b ∧ tv.ownBlock ≠ some b ∧ ov.ownBlock ≠ some b := by
  refine ⟨fun hq => ?_, fun e => ?_, fun e => ?_⟩
  · rcases hq with e | e
    · exact h.m.ne h.q.blk e
    · obtain ⟨c, hc⟩ := row_block h.q.row e
      exact h.m.ne hc rfl
  · obtain ⟨c, hc⟩ := row_block h.t e
    exact h.m.ne hc rfl
  · obtain ⟨c, hc⟩ := row_block h.o e
    exact h.m.ne hc rfl
theorem LSt.below (h : LSt w wr tv E b nb f Q qv d ov out) (hB : Below wr.heap.size wr w') : LSt w w' tv E b nb f Q qv d ov out :=
  ⟨owns_same h.t (fun g e => hB.block g (h.t.lt g e).2), h.m.same (hB.block b h.m.lt), h.q.below hB, owns_same h.o (fun g e => hB.block g (h.o.lt g e).2), h.hd, h.bel.trans (hB.mono h.bel.size), h.bb, h.bq⟩
theorem LSt.queue (h : LSt w wr tv E b nb f Q qv d ov out) {qv' : Value} {d' : Array Int} (hk : KeptO (qOwn Q qv) (qOwn Q qv') wr w') (hq : QAt w' Q qv' d') : LSt w w' tv E b nb f Q qv' d' ov out :=
  ⟨owns_same h.t (fun g e => hk.block g (h.t.lt g e).2 (h.tq e)), h.m.same (hk.block b h.m.lt h.bn.1), hq, owns_same h.o (fun g e => hk.block g (h.o.lt g e).2 (h.oq e)),
    fun g e e2 => (hk.sub g (.inr e)).elim (h.oq e2) (fun h3 => by have := (h.o.lt g e2).2; omega),
    h.bel.trans (hk.below h.bel.size h.bq), h.bb, fun g hg => (hk.sub g hg).elim (h.bq g) (fun h3 => Nat.le_trans h.bel.size h3)⟩
theorem LSt.map (h : LSt w wr tv E b nb f Q qv d ov out) {nb' : Nat} {f' : Int → Option Value} (hg : wr.grownBy w' (some b)) (hm : IMap w' b nb' f') : LSt w w' tv E b nb' f' Q qv d ov out := by
  have hk : ∀ g, g < wr.heap.size → g ≠ b → w'.heap[g]? = wr.heap[g]? := fun g hl hne => hg.block g hl (fun e => hne (by cases e; rfl))
  exact ⟨owns_same h.t (fun g e => hk g (h.t.lt g e).2 (fun e2 => h.bn.2.1 (e2 ▸ e))), hm, h.q.same (fun g e => hk g (h.q.own_lt e) (fun e2 => h.bn.1 (e2 ▸ e))), owns_same h.o (fun g e => hk g (h.o.lt g e).2 (fun e2 => h.bn.2.2 (e2 ▸ e))), h.hd, h.bel.grown hg h.bel.size (fun k e => by cases e; exact h.bb), h.bb, h.bq⟩
theorem LSt.outs (h : LSt w wr tv E b nb f Q qv d ov out) {ov' : Value} {out' : List Int} (hg : wr.grownBy w' ov.ownBlock) (ho : w'.ownsRow w.heap.size 3 1 ov' out'.length (intsV out')) (hs : ∀ g, ov'.ownBlock = some g → ov.ownBlock = some g ∨ wr.heap.size ≤ g) : LSt w w' tv E b nb f Q qv d ov' out' :=
  ⟨owns_same h.t (fun g e => hg.block g (h.t.lt g e).2 (fun e2 => h.to e e2.symm)), h.m.same (hg.block b h.m.lt (fun e => h.bn.2.2 e.symm)), h.q.same (fun g e => hg.block g (h.q.own_lt e) (fun e2 => h.oq e2.symm e)), ho,
    fun g e e2 => (hs g e2).elim (h.hd g e) (fun h3 => by have := (h.q.row.lt g e).2; omega),
    h.bel.grown hg h.bel.size (fun k e => (h.o.lt k e).1), h.bb, h.bq⟩
end

theorem upd_del (M : Int → Option Int) (x : Int) : updT (fun y => (M y).map (Value.int .i64)) x none = fun y => ((fun y => if y = x then none else M y) y).map (Value.int .i64) := by
  funext y
  by_cases e : y = x
  · subst e; rw [updT_same]; simp
  · rw [updT_other _ _ e]; simp [e]
theorem upd_put (M : Int → Option Int) (x m : Int) : updT (fun y => (M y).map (Value.int .i64)) x (some (.int .i64 m)) = fun y => ((fun y => if y = x then some m else M y) y).map (Value.int .i64) := by
  funext y
  by_cases e : y = x
  · subst e; rw [updT_same]; simp
  · rw [updT_other _ _ e]; simp [e]

end Go.Proofs.YtjefgmeejhakbaaGreatDoor
