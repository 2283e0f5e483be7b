package tests

import (
	"math"
	"slices"
	"testing"

	"loop.example/g00181/impl"
)

// engCall is one call of an engine: which one, and what is handed in to it.
type engCall struct {
	name string
	tx   int
	oid  int
	no   int
	s    impl.Slot
}

// engAnswer is all that a call answers; tx is of begin alone, s of get alone.
type engAnswer struct {
	e    impl.Engine
	tx   int
	s    impl.Slot
	code int
}

func callEngine(e impl.Engine, c engCall) engAnswer {
	var a engAnswer
	switch c.name {
	case "begin":
		a.e, a.tx, a.code = impl.Begin(e)
	case "set":
		a.e, a.code = impl.Set(e, c.tx, c.oid, c.s)
	case "get":
		a.e, a.s, a.code = impl.Get(e, c.oid)
	case "commit":
		a.e, a.code = impl.Commit(e, c.tx)
	case "abort":
		a.e, a.code = impl.Abort(e, c.tx)
	case "flush":
		a.e, a.code = impl.Flush(e, c.no)
	case "check":
		a.e, a.code = impl.Check(e)
	}
	return a
}

func begin() engCall                               { return engCall{name: "begin"} }
func set(tx int, oid int, s impl.Slot) engCall     { return engCall{name: "set", tx: tx, oid: oid, s: s} }
func get(oid int) engCall                          { return engCall{name: "get", oid: oid} }
func commit(tx int) engCall                        { return engCall{name: "commit", tx: tx} }
func abort(tx int) engCall                         { return engCall{name: "abort", tx: tx} }
func flush(no int) engCall                         { return engCall{name: "flush", no: no} }
func check() engCall                               { return engCall{name: "check"} }
func numbered(n int) impl.Slot                     { return slotOf(1, []int{n}, nil) }
func engineOf(t *testing.T, c ...engCall) engMaker { return engMaker{t, impl.EngineNew()}.then(c...) }

// engMaker goes on from an engine by calls that must all be good.
type engMaker struct {
	t *testing.T
	e impl.Engine
}

func (m engMaker) then(calls ...engCall) engMaker {
	m.t.Helper()
	for _, c := range calls {
		a := callEngine(m.e, c)
		if a.code != impl.EngGood {
			m.t.Fatalf("%v: %d", c, a.code)
		}
		m.e = a.e
	}
	return m
}

func sameEngines(a impl.Engine, b impl.Engine) bool {
	ok := a.Next == b.Next && a.Down == b.Down && slices.Equal(a.Txs, b.Txs) && slices.Equal(a.Holds, b.Holds)
	for i := range a.Disk {
		ok = ok && samePage(a.Disk[i], b.Disk[i])
	}
	return ok && samePools(a.Pool, b.Pool) && sameLogs(a.Log, b.Log)
}

func deepSlot(s impl.Slot) impl.Slot {
	return impl.Slot{Has: s.Has, O: impl.Obj{Kind: s.O.Kind, Ints: slices.Clone(s.O.Ints), Refs: slices.Clone(s.O.Refs)}}
}

func deepPage(p impl.Page) impl.Page {
	for i, s := range p.Slots {
		p.Slots[i] = deepSlot(s)
	}
	return p
}

// deepEngine is an engine that nothing which is done to e can reach.
func deepEngine(e impl.Engine) impl.Engine {
	for i, p := range e.Disk {
		e.Disk[i] = deepPage(p)
	}
	e.Pool = clonePool(e.Pool)
	for i, s := range e.Pool.Seats {
		e.Pool.Seats[i].P = deepPage(s.P)
	}
	e.Log.Recs = slices.Clone(e.Log.Recs)
	for i, r := range e.Log.Recs {
		e.Log.Recs[i].Before, e.Log.Recs[i].After, e.Log.Recs[i].Txs = deepSlot(r.Before), deepSlot(r.After), slices.Clone(r.Txs)
	}
	e.Txs, e.Holds = slices.Clone(e.Txs), slices.Clone(e.Holds)
	return e
}

// What follows, to plainEngine, is the chapter once more, by other means: what the calls are held against.

func plainPageOk(p impl.Page) bool {
	ok := p.Lsn >= 0 && p.Lsn <= 1000000
	for _, s := range p.Slots {
		ok = ok && plainSlotOk(s)
	}
	return ok
}

func plainPoolOk(p impl.Pool) bool {
	ok := len(p.Seats) <= 3 && p.Hand >= 0 && p.Hand <= 2
	for i, s := range p.Seats {
		ok = ok && s.No >= 0 && s.No <= 7 && plainPageOk(s.P) && plainSeated(p, s.No) == i
	}
	return ok
}

func plainEngineOk(e impl.Engine) bool {
	ok := plainPoolOk(e.Pool) && plainLogOk(e.Log) && len(e.Txs) <= 6 && e.Next >= 1 && e.Next <= 1001
	last := map[int]int{}
	for _, r := range e.Log.Recs {
		ok = ok && r.Tx < e.Next
		last[r.Tx] = r.Lsn
	}
	lives := map[int]int{}
	for i, live := range e.Txs {
		lives[live.Tx]++
		ok = ok && live.Tx >= 1 && live.Tx < e.Next && (i == 0 || live.Tx > e.Txs[i-1].Tx) && live.Last == last[live.Tx] && !live.Aborts
	}
	holders := map[int]int{}
	for _, h := range e.Holds {
		holders[h.Oid]++
		ok = ok && h.Oid >= 1 && h.Oid <= 31 && holders[h.Oid] == 1 && lives[h.Tx] == 1
	}
	for _, p := range e.Disk {
		ok = ok && plainPageOk(p) && p.Lsn <= e.Log.Sure
	}
	for _, s := range e.Pool.Seats {
		ok = ok && s.P.Lsn <= len(e.Log.Recs) && (s.Dirty || samePage(s.P, e.Disk[s.No]))
	}
	return ok && (!e.Down || len(e.Pool.Seats)+len(e.Txs)+len(e.Holds) == 0)
}

func plainLive(e impl.Engine, tx int) int {
	return slices.IndexFunc(e.Txs, func(live impl.Live) bool { return live.Tx == tx })
}

func plainHold(e impl.Engine, oid int) int {
	return slices.IndexFunc(e.Holds, func(h impl.Hold) bool { return h.Oid == oid })
}

func plainFetch(e impl.Engine, no int) impl.Engine {
	e.Pool = clonePool(e.Pool)
	if at := plainSeated(e.Pool, no); at >= 0 {
		e.Pool.Seats[at].Hot = true
		return e
	}
	seat := impl.Seat{No: no, P: e.Disk[no], Hot: true}
	if len(e.Pool.Seats) < 3 {
		e.Pool.Seats = append(e.Pool.Seats, seat)
		return e
	}
	at := 0
	e.Pool, at = plainVictim(e.Pool)
	if gone := e.Pool.Seats[at]; gone.Dirty {
		e.Log.Sure = max(e.Log.Sure, gone.P.Lsn)
		e.Disk[gone.No] = gone.P
	}
	e.Pool.Seats[at] = seat
	return e
}

// plainTell appends a record of the transaction, and tells its Lsn.
func plainTell(e impl.Engine, tx int, r impl.Rec) (impl.Engine, int) {
	at := plainLive(e, tx)
	r.Lsn, r.Tx, r.Prev = len(e.Log.Recs)+1, tx, e.Txs[at].Last
	e.Log.Recs = append(slices.Clip(e.Log.Recs), r)
	e.Txs = slices.Clone(e.Txs)
	e.Txs[at].Last = r.Lsn
	return e, r.Lsn
}

// plainChange puts a slot where its object lives, in a seat that is fetched for it.
func plainChange(e impl.Engine, oid int, s impl.Slot, lsn int) impl.Engine {
	e = plainFetch(e, oid/4)
	seat := &e.Pool.Seats[plainSeated(e.Pool, oid/4)]
	seat.P.Slots[oid%4], seat.P.Lsn, seat.Dirty, seat.Hot = s, lsn, true, true
	return e
}

// plainLook is what is there of an object, in its seat or else on the disk.
func plainLook(e impl.Engine, oid int) impl.Slot {
	if at := plainSeated(e.Pool, oid/4); at >= 0 {
		return e.Pool.Seats[at].P.Slots[oid%4]
	}
	return e.Disk[oid/4].Slots[oid%4]
}

func plainSet(e impl.Engine, tx int, oid int, s impl.Slot) impl.Engine {
	e, lsn := plainTell(plainFetch(e, oid/4), tx, impl.Rec{Kind: 1, Oid: oid, Before: plainLook(e, oid), After: s})
	if plainHold(e, oid) < 0 {
		e.Holds = append(slices.Clip(e.Holds), impl.Hold{Tx: tx, Oid: oid})
	}
	return plainChange(e, oid, s, lsn)
}

func plainEnd(e impl.Engine, tx int) impl.Engine {
	e, _ = plainTell(e, tx, impl.Rec{Kind: 5})
	e.Txs = slices.DeleteFunc(slices.Clone(e.Txs), func(live impl.Live) bool { return live.Tx == tx })
	e.Holds = slices.DeleteFunc(slices.Clone(e.Holds), func(h impl.Hold) bool { return h.Tx == tx })
	return e
}

func plainCommit(e impl.Engine, tx int) impl.Engine {
	e, lsn := plainTell(e, tx, impl.Rec{Kind: 2})
	e.Log.Sure = lsn
	return plainEnd(e, tx)
}

func plainAbort(e impl.Engine, tx int) impl.Engine {
	told := len(e.Log.Recs)
	e, _ = plainTell(e, tx, impl.Rec{Kind: 3})
	for i := told - 1; i >= 0; i-- {
		if r := e.Log.Recs[i]; r.Tx == tx && r.Kind == 1 {
			lsn := 0
			e, lsn = plainTell(e, tx, impl.Rec{Kind: 4, Oid: r.Oid, After: r.Before, Next: r.Prev})
			e = plainChange(e, r.Oid, r.Before, lsn)
		}
	}
	return plainEnd(e, tx)
}

func plainFlush(e impl.Engine, no int) impl.Engine {
	if at := plainSeated(e.Pool, no); at >= 0 && e.Pool.Seats[at].Dirty {
		e.Pool = clonePool(e.Pool)
		e.Pool.Seats[at].Dirty = false
		e.Disk[no] = e.Pool.Seats[at].P
		e.Log.Sure = max(e.Log.Sure, e.Disk[no].Lsn)
	}
	return e
}

func plainCheck(e impl.Engine) impl.Engine {
	r := impl.Rec{Lsn: len(e.Log.Recs) + 1, Kind: 6}
	for _, live := range e.Txs {
		if live.Last != 0 {
			r.Txs = append(r.Txs, live)
		}
	}
	e.Log.Recs = append(slices.Clip(e.Log.Recs), r)
	e.Log.Sure = r.Lsn
	return e
}

// plainCode is the first reason of all that a call is refused for; EngGood, where there is none.
func plainCode(e impl.Engine, c engCall) int {
	ofObject, ofTx := c.name == "set" || c.name == "get", c.name == "set" || c.name == "commit" || c.name == "abort"
	form := !plainEngineOk(e) || e.Down || ofObject && (c.oid < 1 || c.oid > 31)
	form = form || c.name == "set" && !plainSlotOk(c.s) || c.name == "flush" && (c.no < 0 || c.no > 7)
	recs, own := len(e.Log.Recs), 0
	for _, r := range e.Log.Recs {
		if r.Tx == c.tx {
			own++
		}
	}
	switch {
	case form:
		return 1
	case recs > 3800:
		return 4
	case ofTx && plainLive(e, c.tx) < 0:
		return 2
	case c.name == "set" && plainHold(e, c.oid) >= 0 && e.Holds[plainHold(e, c.oid)].Tx != c.tx:
		return 3
	case c.name == "begin" && (len(e.Txs) >= 6 || e.Next > 1000):
		return 4
	case c.name == "abort" && recs+own+2 > 4000:
		return 4
	}
	return 0
}

func plainEngine(e impl.Engine, c engCall) engAnswer {
	a := engAnswer{e: e, code: plainCode(e, c)}
	if a.code != 0 {
		return a
	}
	switch c.name {
	case "begin":
		a.tx = e.Next
		a.e.Txs = append(slices.Clip(e.Txs), impl.Live{Tx: e.Next})
		a.e.Next++
	case "set":
		a.e = plainSet(e, c.tx, c.oid, c.s)
	case "get":
		a.e, a.s = plainFetch(e, c.oid/4), plainLook(e, c.oid)
	case "commit":
		a.e = plainCommit(e, c.tx)
	case "abort":
		a.e = plainAbort(e, c.tx)
	case "flush":
		a.e = plainFlush(e, c.no)
	case "check":
		a.e = plainCheck(e)
	}
	return a
}

// checkCall holds a call against the plain doing of it, and asks that its argument is as it was.
func checkCall(t *testing.T, e impl.Engine, c engCall) engAnswer {
	t.Helper()
	was := deepEngine(e)
	want := plainEngine(was, c)
	got := callEngine(e, c)
	if got.code != want.code || got.tx != want.tx || !sameSlot(got.s, want.s) {
		t.Fatalf("%v: %d, %v, code %d, want %d, %v, code %d", c, got.tx, got.s, got.code, want.tx, want.s, want.code)
	}
	if !sameEngines(got.e, want.e) {
		t.Fatalf("%v, code %d: another engine:\n%+v\nwant:\n%+v", c, got.code, brief(got.e), brief(want.e))
	}
	if !sameEngines(e, was) {
		t.Fatalf("%v, code %d: its argument changed", c, got.code)
	}
	return got
}

// brief leaves the log's end alone of a long one, so that what is told can be read.
func brief(e impl.Engine) impl.Engine {
	e.Log.Recs = e.Log.Recs[max(0, len(e.Log.Recs)-8):]
	return e
}

func checkCode(t *testing.T, e impl.Engine, c engCall, want int) {
	t.Helper()
	if got := checkCall(t, e, c); got.code != want {
		t.Fatalf("%v: code %d, want %d", c, got.code, want)
	}
}

// busyEngine has of all that an engine may have: transactions under way with records and without, held objects, pages written and not, seats of each kind, and a log of which not all is sure.
func busyEngine(t *testing.T) impl.Engine {
	t.Helper()
	full := fullSlots()
	return engineOf(t, begin(), begin(), begin(), begin(),
		set(1, 1, full[0]), set(1, 5, full[4]), set(1, 6, full[3]), set(2, 9, full[2]), set(2, 13, full[1]),
		commit(1), check(), begin(), set(3, 5, full[3]), set(3, 31, full[4]), flush(7), abort(2), begin(), set(5, 30, full[1]), flush(7), set(3, 10, full[0]), set(5, 7, full[2])).e
}

func TestEngineBusy(t *testing.T) {
	e := busyEngine(t)
	var dirty, clean, written int
	for _, s := range e.Pool.Seats {
		if s.Dirty {
			dirty++
		} else if s.P.Lsn > 0 {
			clean++
		}
	}
	for _, p := range e.Disk {
		if p.Lsn > 0 {
			written++
		}
	}
	if dirty != 2 || clean != 1 || written < 3 || len(e.Txs) != 4 || len(e.Holds) < 4 || e.Log.Sure >= len(e.Log.Recs) || e.Next != 7 {
		t.Fatalf("the engine that others are made of has not all it should: %+v", e)
	}
	if e.Txs[1].Last != 0 || e.Txs[0].Last == 0 || !slices.IsSortedFunc(e.Txs, func(a, b impl.Live) int { return a.Tx - b.Tx }) {
		t.Fatalf("its transactions: %v", e.Txs)
	}
}

// downEngine is what a crash leaves: what is sure, and the disk.
func downEngine(t *testing.T) impl.Engine {
	e := busyEngine(t)
	return impl.Engine{Disk: e.Disk, Log: impl.Log{Recs: e.Log.Recs[:e.Log.Sure], Sure: e.Log.Sure}, Next: e.Next, Down: true}
}

// longEngine has a log of count records, of which own are of transaction 2, which holds 5; 3 has none yet; 1 has ended.
func longEngine(count int, own int) impl.Engine {
	e := impl.Engine{Next: 4, Txs: []impl.Live{{Tx: 2}, {Tx: 3}}}
	var p impl.Page
	for i := range count {
		r := impl.Rec{Lsn: i + 1, Tx: 1, Kind: impl.RecEnd}
		if i < own {
			r = impl.Rec{Lsn: i + 1, Tx: 2, Prev: i, Kind: impl.RecSet, Oid: 5, Before: p.Slots[1], After: numbered(i)}
			p.Lsn, p.Slots[1], e.Txs[0].Last = i+1, r.After, i+1
		}
		e.Log.Recs = append(e.Log.Recs, r)
	}
	if own > 0 {
		e.Pool.Seats = []impl.Seat{{No: 1, P: p, Dirty: true}}
		e.Holds = []impl.Hold{{Tx: 2, Oid: 5}}
	}
	return e
}

// goodEngines are right, at each edge of what EngineOk asks.
func goodEngines(t *testing.T) []impl.Engine {
	out := []impl.Engine{impl.EngineNew(), busyEngine(t), downEngine(t), {Next: 1, Down: true}, {Next: impl.MaxTx}, {Next: impl.MaxTx + 1}, {Next: impl.MaxTx + 1, Down: true}}
	add := func(change func(e *impl.Engine)) {
		e := deepEngine(busyEngine(t))
		change(&e)
		out = append(out, e)
	}
	add(func(e *impl.Engine) { e.Log.Sure = len(e.Log.Recs) })
	add(func(e *impl.Engine) { e.Next = impl.MaxTx + 1 })
	add(func(e *impl.Engine) { e.Holds = nil })
	add(func(e *impl.Engine) { e.Holds = []impl.Hold{{Tx: 4, Oid: 31}, {Tx: 3, Oid: 1}, {Tx: 4, Oid: 2}} })
	add(func(e *impl.Engine) { e.Txs, e.Holds = nil, nil })
	add(func(e *impl.Engine) { e.Txs, e.Holds, e.Pool.Seats = []impl.Live{}, []impl.Hold{}, []impl.Seat{} })
	add(func(e *impl.Engine) { e.Txs, e.Next = append(e.Txs, impl.Live{Tx: 9}, impl.Live{Tx: 12}), 13 })
	add(func(e *impl.Engine) { e.Txs, e.Next = append(e.Txs, impl.Live{Tx: impl.MaxTx}), impl.MaxTx+1 })
	add(func(e *impl.Engine) { e.Disk[0].Lsn = e.Log.Sure })
	add(func(e *impl.Engine) { e.Pool.Seats[dirtyAt(*e)].P.Lsn = len(e.Log.Recs) })
	add(func(e *impl.Engine) { e.Pool.Seats[dirtyAt(*e)].P = impl.Page{} })
	down := downEngine(t)
	// Of one that is Down the chapter asks for no seats, but not where the Hand is.
	down.Pool.Hand = 2
	return append(out, down)
}

func dirtyAt(e impl.Engine) int {
	return slices.IndexFunc(e.Pool.Seats, func(s impl.Seat) bool { return s.Dirty })
}

func cleanAt(e impl.Engine) int {
	return slices.IndexFunc(e.Pool.Seats, func(s impl.Seat) bool { return !s.Dirty && s.P.Lsn > 0 })
}

// wrongEngine has one thing that is not right.
type wrongEngine struct {
	why string
	e   impl.Engine
}

// wrongMaker gathers engines that are right but for one change each.
type wrongMaker struct {
	busy impl.Engine
	down impl.Engine
	out  []wrongEngine
}

func (w *wrongMaker) add(why string, change func(e *impl.Engine)) {
	e := deepEngine(w.busy)
	change(&e)
	w.out = append(w.out, wrongEngine{why, e})
}

// wrongEngines are engines of which each thing that EngineOk asks does not hold, one at a time.
func wrongEngines(t *testing.T) []wrongEngine {
	w := &wrongMaker{busy: busyEngine(t), down: downEngine(t)}
	w.add("the zero one", func(e *impl.Engine) { *e = impl.Engine{} })
	for i, p := range wrongPages() {
		w.add("a page on the disk", func(e *impl.Engine) { e.Disk[(i%5)+2] = p })
		if p.Lsn <= 20 {
			w.add("a seat's page", func(e *impl.Engine) { e.Pool.Seats[dirtyAt(*e)].P = p })
		}
	}
	for _, hand := range wrongHands {
		w.add("the hand", func(e *impl.Engine) { e.Pool.Hand = hand })
	}
	for _, no := range wrongNos {
		w.add("a seat's number", func(e *impl.Engine) { e.Pool.Seats[dirtyAt(*e)].No = no })
	}
	w.add("two seats of a page", func(e *impl.Engine) { e.Pool.Seats[dirtyAt(*e)].No = e.Pool.Seats[cleanAt(*e)].No })
	w.add("four seats", func(e *impl.Engine) { e.Pool.Seats = append(e.Pool.Seats, impl.Seat{No: 5, Dirty: true}) })
	for _, l := range wrongLogs() {
		w.add("the log alone", func(e *impl.Engine) { *e = impl.Engine{Log: l, Next: impl.MaxTx + 1} })
	}
	for _, sure := range []int{-1, 0, 1, 100, math.MaxInt64, math.MinInt64} {
		w.add("what is sure", func(e *impl.Engine) { e.Log.Sure = sure })
	}
	w.add("no record ahead", func(e *impl.Engine) { e.Log.Recs[4].Prev = 5 })
	wrongByTxs(w)
	wrongByHolds(w)
	wrongByPages(w)
	return w.out
}

func wrongByTxs(w *wrongMaker) {
	for _, next := range []int{0, -1, 5, 6, impl.MaxTx + 2, math.MaxInt64, math.MinInt64} {
		w.add("the next transaction", func(e *impl.Engine) { e.Next = next })
	}
	for _, next := range []int{-1, 0, 1, 2, 5} {
		w.add("the next transaction, of the log alone", func(e *impl.Engine) { e.Txs, e.Holds, e.Next = nil, nil, next })
		w.add("the next transaction of one that is down", func(e *impl.Engine) { *e = w.down; e.Next = min(next, 3) })
	}
	w.add("the next transaction, of Txs alone", func(e *impl.Engine) { *e = impl.Engine{Next: 4, Txs: []impl.Live{{Tx: 4}}} })
	w.add("the next transaction, where nothing is", func(e *impl.Engine) { *e = impl.Engine{Next: impl.MaxTx + 2} })
	for _, tx := range []int{0, -1, math.MinInt64} {
		w.add("a transaction's number", func(e *impl.Engine) { *e = impl.Engine{Next: 4, Txs: []impl.Live{{Tx: tx}}} })
	}
	for _, tx := range []int{impl.MaxTx + 1, impl.MaxTx + 2, math.MaxInt64} {
		w.add("a transaction's number", func(e *impl.Engine) { *e = impl.Engine{Next: impl.MaxTx + 1, Txs: []impl.Live{{Tx: tx}}} })
	}
	w.add("one twice", func(e *impl.Engine) { e.Txs = slices.Insert(e.Txs, 1, e.Txs[1]) })
	w.add("not ascending", func(e *impl.Engine) { e.Txs[0], e.Txs[1] = e.Txs[1], e.Txs[0] })
	w.add("not ascending at the end", func(e *impl.Engine) { e.Txs[2], e.Txs[3] = e.Txs[3], e.Txs[2] })
	w.add("seven", func(e *impl.Engine) {
		e.Next = 20
		e.Txs = append(e.Txs, impl.Live{Tx: 10}, impl.Live{Tx: 11}, impl.Live{Tx: 12})
	})
	for at := range 4 {
		w.add("one aborts", func(e *impl.Engine) { e.Txs[at].Aborts = true })
		for _, by := range []int{-1, 1, 5, math.MaxInt32} {
			w.add("a last record", func(e *impl.Engine) { e.Txs[at].Last += by })
		}
	}
	w.add("no last record", func(e *impl.Engine) { e.Txs[0].Last = 0 })
	w.add("an earlier record of its own", func(e *impl.Engine) { e.Txs[0].Last = impl.Chain(e.Log, e.Txs[0].Tx)[1] })
}

func wrongByHolds(w *wrongMaker) {
	for _, oid := range []int{0, -1, impl.MaxOid + 1, math.MaxInt64, math.MinInt64} {
		w.add("what is held", func(e *impl.Engine) { e.Holds[1].Oid = oid })
		w.add("what is held, behind the others", func(e *impl.Engine) { e.Holds = append(e.Holds, impl.Hold{Tx: 3, Oid: oid}) })
	}
	for _, tx := range []int{0, -1, 1, 2, 7, math.MaxInt64, math.MinInt64} {
		w.add("who holds", func(e *impl.Engine) { e.Holds[1].Tx = tx })
		w.add("who holds, behind the others", func(e *impl.Engine) { e.Holds = append(e.Holds, impl.Hold{Tx: tx, Oid: 20}) })
	}
	w.add("held twice by one", func(e *impl.Engine) { e.Holds = append(e.Holds, e.Holds[0]) })
	w.add("held by two", func(e *impl.Engine) { e.Holds = append(e.Holds, impl.Hold{Tx: 4, Oid: e.Holds[0].Oid}) })
	w.add("held by nobody", func(e *impl.Engine) { e.Txs = e.Txs[:1] })
	w.add("seats of one that is down", func(e *impl.Engine) { e.Txs, e.Holds, e.Down = nil, nil, true })
	w.add("a seat of one that is down", func(e *impl.Engine) { *e = impl.Engine{Next: 1, Down: true, Pool: impl.Pool{Seats: []impl.Seat{{}}}} })
	w.add("transactions of one that is down", func(e *impl.Engine) { e.Pool.Seats, e.Holds, e.Down = nil, nil, true })
	w.add("a transaction of one that is down", func(e *impl.Engine) { *e = impl.Engine{Next: 3, Down: true, Txs: []impl.Live{{Tx: 2}}} })
	w.add("holds of one that is down", func(e *impl.Engine) { e.Pool.Seats, e.Txs, e.Down = nil, nil, true })
	w.add("all of one that is down", func(e *impl.Engine) { e.Down = true })
}

func wrongByPages(w *wrongMaker) {
	for no := range impl.Pages {
		if at := plainSeated(w.busy.Pool, no); at < 0 || w.busy.Pool.Seats[at].Dirty {
			w.add("a page of what is not sure", func(e *impl.Engine) { e.Disk[no].Lsn = e.Log.Sure + 1 })
			w.add("a page of what is there, but not sure", func(e *impl.Engine) { e.Disk[no].Lsn = len(e.Log.Recs) })
			w.add("a page of what is not there", func(e *impl.Engine) { e.Disk[no].Lsn = impl.MaxLsn })
		}
	}
	w.add("a page of one that is down", func(e *impl.Engine) { *e = w.down; e.Disk[3].Lsn = e.Log.Sure + 1 })
	w.add("a seat of what is not there", func(e *impl.Engine) { e.Pool.Seats[dirtyAt(*e)].P.Lsn = len(e.Log.Recs) + 1 })
	w.add("a seat of what is far off", func(e *impl.Engine) { e.Pool.Seats[dirtyAt(*e)].P.Lsn = impl.MaxLsn })
	w.add("a seat that was changed", func(e *impl.Engine) { e.Pool.Seats[dirtyAt(*e)].Dirty = false })
	w.add("a lesser Lsn than the disk's", func(e *impl.Engine) { e.Pool.Seats[cleanAt(*e)].P.Lsn-- })
	w.add("a greater Lsn than the disk's", func(e *impl.Engine) { e.Pool.Seats[cleanAt(*e)].P.Lsn++ })
	w.add("the disk has another Lsn", func(e *impl.Engine) { e.Disk[e.Pool.Seats[cleanAt(*e)].No].Lsn-- })
	for slot := range impl.PageSlots {
		w.add("another slot than the disk's", func(e *impl.Engine) {
			p := &e.Pool.Seats[cleanAt(*e)].P
			p.Slots[slot] = slotOf(8, []int{1}, nil)
		})
		w.add("the disk has another slot", func(e *impl.Engine) { e.Disk[e.Pool.Seats[cleanAt(*e)].No].Slots[slot] = slotOf(8, nil, []int{1}) })
	}
	w.add("the page of another number", func(e *impl.Engine) { e.Pool.Seats[cleanAt(*e)].No = 4 })
}

func TestEngineConstants(t *testing.T) {
	if impl.MaxLive != 6 {
		t.Errorf("MaxLive %d", impl.MaxLive)
	}
	codes := []int{impl.EngGood, impl.EngForm, impl.EngNone, impl.EngBusy, impl.EngFull}
	if !slices.Equal(codes, []int{0, 1, 2, 3, 4}) {
		t.Errorf("codes %v", codes)
	}
}

func TestEngineNew(t *testing.T) {
	if e := impl.EngineNew(); !sameEngines(e, impl.Engine{Next: 1}) || !impl.EngineOk(e) {
		t.Errorf("%+v", e)
	}
}

func TestEngineOk(t *testing.T) {
	for i, e := range goodEngines(t) {
		if !plainEngineOk(e) || !impl.EngineOk(e) {
			t.Errorf("engine %d is one: %v, %+v", i, impl.EngineOk(e), e)
		}
	}
	for i, w := range wrongEngines(t) {
		if plainEngineOk(w.e) || impl.EngineOk(w.e) {
			t.Errorf("%d, %s: is none: %+v", i, w.why, w.e)
		}
	}
}

func TestEngineOkTakesEmptyListsAsNone(t *testing.T) {
	e := busyEngine(t)
	for i := range e.Disk {
		for slot := range e.Disk[i].Slots {
			if o := &e.Disk[i].Slots[slot].O; len(o.Ints) == 0 {
				o.Ints = []int{}
			}
		}
	}
	for i := range e.Pool.Seats {
		for slot := range e.Pool.Seats[i].P.Slots {
			if o := &e.Pool.Seats[i].P.Slots[slot].O; len(o.Refs) == 0 {
				o.Refs = []int{}
			}
		}
	}
	if !impl.EngineOk(e) {
		t.Error("an empty list is no other than none")
	}
}

// turns are choices that look like chance but are always the same.
type turns struct{ n int }

func (r *turns) below(most int) int {
	r.n = (r.n*1103515245 + 12345) % 2147483648
	return r.n / 65536 % most
}

// mutate turns one thing of an engine into something near it.
func mutate(r *turns, e *impl.Engine) {
	n := r.below(9) - 1
	seat, page := &impl.Seat{}, &e.Disk[r.below(8)]
	if len(e.Pool.Seats) > 0 {
		seat = &e.Pool.Seats[r.below(len(e.Pool.Seats))]
	}
	switch r.below(16) {
	case 0:
		e.Next = []int{0, 1, 4, 6, 7, 8, 1000, 1001, 1002}[n+1]
	case 1:
		e.Down = !e.Down
	case 2:
		e.Pool.Hand = n
	case 3:
		seat.No = n
	case 4:
		seat.Dirty = !seat.Dirty
	case 5:
		seat.P.Lsn += n - 3
	case 6:
		page.Lsn = n * 4
	case 7:
		e.Log.Sure += n - 3
	case 8:
		e.Log.Recs = e.Log.Recs[:max(0, len(e.Log.Recs)-max(n, 0))]
		e.Log.Sure = min(e.Log.Sure, len(e.Log.Recs))
	case 9:
		e.Txs = e.Txs[:min(len(e.Txs), max(n, 0))]
	case 10:
		e.Txs = append(e.Txs, impl.Live{Tx: n})
	case 11:
		e.Holds = e.Holds[:min(len(e.Holds), max(n, 0))]
	case 12:
		e.Holds = append(e.Holds, impl.Hold{Tx: n, Oid: r.below(33)})
	case 13:
		e.Log.Recs = append(e.Log.Recs, impl.Rec{Lsn: len(e.Log.Recs) + 1, Tx: n, Kind: impl.RecEnd})
	case 14:
		e.Pool.Seats = e.Pool.Seats[:min(len(e.Pool.Seats), max(n, 0))]
	case 15:
		page.Slots[r.below(4)] = numbered(n)
	}
}

func TestEngineOkOfManyEngines(t *testing.T) {
	r := &turns{7}
	found := map[bool]int{}
	good := goodEngines(t)
	for range 12000 {
		e := deepEngine(good[r.below(len(good))])
		for range 1 + r.below(3) {
			mutate(r, &e)
		}
		want := plainEngineOk(e)
		if impl.EngineOk(e) != want {
			t.Fatalf("%v, want %v: %+v", !want, want, e)
		}
		found[want]++
	}
	if found[true] < 2000 || found[false] < 2000 {
		t.Errorf("too few: %v", found)
	}
}

// What a call does to any engine that is right, whether it came of calls or not, is as the chapter says.
func TestCallsOfManyEngines(t *testing.T) {
	r := &turns{77}
	codes := map[int]int{}
	good := goodEngines(t)
	for range 16000 {
		e := deepEngine(good[r.below(len(good))])
		for range r.below(3) {
			mutate(r, &e)
		}
		codes[checkCall(t, e, anyCall(r)).code]++
	}
	for code := range 5 {
		if codes[code] < 20 {
			t.Errorf("too few: %v", codes)
		}
	}
}

// anyCall is a call of something near what is right.
func anyCall(r *turns) engCall {
	slots := append(sampleSlots(), wrongSlots()[r.below(4)])
	names := []string{"begin", "set", "set", "set", "get", "commit", "abort", "flush", "check"}
	return engCall{names[r.below(len(names))], r.below(9) - 1, r.below(34) - 1, r.below(10) - 1, slots[r.below(len(slots))]}
}

// truth is what objects are and were, told without pages, logs and pools.
type truth struct {
	now    map[int]impl.Slot
	were   map[int]map[int]impl.Slot
	holder map[int]int
}

func newTruth() truth {
	return truth{map[int]impl.Slot{}, map[int]map[int]impl.Slot{}, map[int]int{}}
}

func (h truth) set(tx int, oid int, s impl.Slot) {
	if h.were[tx] == nil {
		h.were[tx] = map[int]impl.Slot{}
	}
	if h.holder[oid] == 0 {
		h.were[tx][oid] = h.now[oid]
	}
	h.now[oid], h.holder[oid] = s, tx
}

func (h truth) end(tx int, commits bool) {
	for oid, was := range h.were[tx] {
		if !commits {
			h.now[oid] = was
		}
		delete(h.holder, oid)
	}
	delete(h.were, tx)
}

func (h truth) note(c engCall) {
	switch c.name {
	case "set":
		h.set(c.tx, c.oid, c.s)
	case "commit", "abort":
		h.end(c.tx, c.name == "commit")
	}
}

// checkTruth asks that each object is what it must be, and is held by whom it must be.
func checkTruth(t *testing.T, e impl.Engine, h truth) {
	t.Helper()
	for oid := 1; oid <= impl.MaxOid; oid++ {
		if got := plainLook(e, oid); !sameSlot(got, h.now[oid]) {
			t.Fatalf("object %d is %v, must be %v", oid, got, h.now[oid])
		}
		holder := 0
		if at := plainHold(e, oid); at >= 0 {
			holder = e.Holds[at].Tx
		}
		if holder != h.holder[oid] {
			t.Fatalf("object %d is held by %d, must be by %d", oid, holder, h.holder[oid])
		}
	}
	if len(e.Holds) != len(h.holder) {
		t.Fatalf("holds %v", e.Holds)
	}
}

// toldPage is the page that the log's first records make.
func toldPage(l impl.Log, no int, lsn int) impl.Page {
	var p impl.Page
	for _, r := range l.Recs[:lsn] {
		if (r.Kind == impl.RecSet || r.Kind == impl.RecBack) && r.Oid/4 == no {
			p.Slots[r.Oid%4], p.Lsn = r.After, r.Lsn
		}
	}
	return p
}

// checkLogAhead asks that nothing is on the disk of which the log is not sure, and that pages are just what the log tells.
func checkLogAhead(t *testing.T, e impl.Engine) {
	t.Helper()
	for no, p := range e.Disk {
		if p.Lsn > e.Log.Sure || !samePage(p, toldPage(e.Log, no, p.Lsn)) {
			t.Fatalf("page %d is written with Lsn %d, sure are %d: %v", no, p.Lsn, e.Log.Sure, p)
		}
		if plainSeated(e.Pool, no) < 0 && !samePage(p, toldPage(e.Log, no, len(e.Log.Recs))) {
			t.Fatalf("page %d has no seat, and is not written as it was last: %v", no, p)
		}
	}
	for _, s := range e.Pool.Seats {
		if !samePage(s.P, toldPage(e.Log, s.No, len(e.Log.Recs))) {
			t.Fatalf("the seat of page %d has not what the log tells: %v", s.No, s.P)
		}
	}
}

// nextCall is a call that is mostly taken by an engine: of those that are under way, seldom of others.
func nextCall(r *turns, e impl.Engine) engCall {
	tx := r.below(9)
	if len(e.Txs) > 0 && r.below(20) > 0 {
		tx = e.Txs[r.below(len(e.Txs))].Tx
	}
	slots := sampleSlots()
	oid := 1 + r.below(impl.MaxOid)
	switch n := r.below(40); {
	case n < 4:
		return begin()
	case n < 24:
		return set(tx, oid, slots[r.below(len(slots))])
	case n < 29:
		return get(oid)
	case n < 32:
		return commit(tx)
	case n < 35:
		return abort(tx)
	case n < 38:
		return flush(r.below(impl.Pages))
	}
	return check()
}

func TestEngineStepByStep(t *testing.T) {
	type kind struct {
		name string
		code int
	}
	found := map[kind]int{}
	wrote := 0
	for walk := range 24 {
		r := &turns{1000 * walk}
		e, h := impl.EngineNew(), newTruth()
		for range 220 {
			c := nextCall(r, e)
			a := checkCall(t, e, c)
			if a.code == impl.EngGood {
				h.note(c)
			}
			if c.name != "flush" && a.e.Disk[0].Lsn+a.e.Disk[1].Lsn+a.e.Disk[2].Lsn > e.Disk[0].Lsn+e.Disk[1].Lsn+e.Disk[2].Lsn {
				wrote++
			}
			e = a.e
			if !impl.EngineOk(e) {
				t.Fatalf("%v leaves what is no engine: %+v", c, brief(e))
			}
			checkTruth(t, e, h)
			checkLogAhead(t, e)
			found[kind{c.name, a.code}]++
		}
	}
	for _, k := range []kind{{"begin", 0}, {"begin", 4}, {"set", 0}, {"set", 2}, {"set", 3}, {"get", 0}, {"commit", 0}, {"commit", 2}, {"abort", 0}, {"abort", 2}, {"flush", 0}, {"check", 0}} {
		if found[k] < 10 {
			t.Errorf("%v: %d times only", k, found[k])
		}
	}
	if wrote < 100 {
		t.Errorf("a page that was changed had to go %d times only", wrote)
	}
}

// TestEngineOfAllShortWays goes every way of a few calls of two transactions over two objects.
func TestEngineOfAllShortWays(t *testing.T) {
	calls := []engCall{set(1, 5, numbered(1)), set(1, 5, impl.Slot{}), set(1, 21, numbered(2)), set(2, 5, numbered(3)), set(2, 21, numbered(4)), commit(1), abort(1), abort(2), check(), flush(1)}
	var walk func(e impl.Engine, h truth, left int)
	walk = func(e impl.Engine, h truth, left int) {
		checkTruth(t, e, h)
		checkLogAhead(t, e)
		if left == 0 {
			return
		}
		for _, c := range calls {
			a := checkCall(t, e, c)
			if a.code != impl.EngGood {
				continue
			}
			after := newTruth()
			for oid, s := range h.now {
				after.now[oid] = s
			}
			for oid, tx := range h.holder {
				after.holder[oid] = tx
			}
			for tx, were := range h.were {
				after.were[tx] = map[int]impl.Slot{}
				for oid, s := range were {
					after.were[tx][oid] = s
				}
			}
			after.note(c)
			walk(a.e, after, left-1)
		}
	}
	walk(engineOf(t, begin(), begin()).e, newTruth(), 5)
}

func TestBegin(t *testing.T) {
	e := impl.EngineNew()
	for n := 1; n <= impl.MaxLive; n++ {
		out, tx, code := impl.Begin(e)
		if tx != n || code != impl.EngGood || out.Next != n+1 || len(out.Txs) != n || out.Txs[n-1] != (impl.Live{Tx: n}) || len(out.Log.Recs) != 0 {
			t.Fatalf("%d: %d, %d, %+v", n, tx, code, out)
		}
		checkCall(t, e, begin())
		e = out
	}
	if out, tx, code := impl.Begin(e); tx != 0 || code != impl.EngFull || !sameEngines(out, e) {
		t.Errorf("one more than MaxLive: %d, %d, %+v", tx, code, out)
	}
	e = engMaker{t, e}.then(commit(3)).e
	if out, tx, code := impl.Begin(e); tx != 7 || code != impl.EngGood || !slices.Equal(out.Txs, []impl.Live{{Tx: 1}, {Tx: 2}, {Tx: 4}, {Tx: 5}, {Tx: 6}, {Tx: 7}}) {
		t.Errorf("again: %d, %d, %v", tx, code, out.Txs)
	}
}

func TestBeginAtTheEdgesOfNext(t *testing.T) {
	for next, code := range map[int]int{
		1: 0, 2: 0, impl.MaxTx - 1: 0, impl.MaxTx: 0, impl.MaxTx + 1: impl.EngFull,
		0: impl.EngForm, -1: impl.EngForm, impl.MaxTx + 2: impl.EngForm, math.MaxInt64: impl.EngForm, math.MinInt64: impl.EngForm,
	} {
		e := impl.Engine{Next: next}
		out, tx, got := impl.Begin(e)
		want := e
		if code == 0 {
			want = impl.Engine{Next: next + 1, Txs: []impl.Live{{Tx: next}}}
		}
		if got != code || code == 0 && tx != next || code != 0 && tx != 0 || !sameEngines(out, want) {
			t.Errorf("Next %d: %d, %d, %+v", next, tx, got, out)
		}
	}
	last := engMaker{t, impl.Engine{Next: impl.MaxTx}}.then(begin(), set(impl.MaxTx, 1, numbered(1)), commit(impl.MaxTx))
	checkCode(t, last.e, begin(), impl.EngFull)
}

func TestSetIsThereAndHeld(t *testing.T) {
	for oid := 1; oid <= impl.MaxOid; oid++ {
		for _, s := range sampleSlots() {
			m := engineOf(t, begin(), begin(), set(2, oid, s))
			e, got, code := impl.Get(m.e, oid)
			if code != impl.EngGood || !sameSlot(got, s) || !sameEngines(e, m.e) {
				t.Fatalf("object %d, set to %v: %v, %d", oid, s, got, code)
			}
			seat := m.e.Pool.Seats[0]
			if seat.No != oid/4 || !sameSlot(seat.P.Slots[oid%4], s) || seat.P.Lsn != 1 || !seat.Dirty || !seat.Hot {
				t.Fatalf("object %d: its seat %v", oid, seat)
			}
			if !slices.Equal(m.e.Holds, []impl.Hold{{Tx: 2, Oid: oid}}) || !slices.Equal(m.e.Txs, []impl.Live{{Tx: 1}, {Tx: 2, Last: 1}}) {
				t.Fatalf("object %d: %v, %v", oid, m.e.Holds, m.e.Txs)
			}
			if !sameLogs(m.e.Log, impl.Log{Recs: []impl.Rec{{Lsn: 1, Tx: 2, Kind: impl.RecSet, Oid: oid, After: s}}}) {
				t.Fatalf("object %d: %+v", oid, m.e.Log)
			}
			for other := 1; other <= impl.MaxOid; other++ {
				if _, got, _ := impl.Get(m.e, other); other != oid && got.Has {
					t.Fatalf("object %d is there, too: %v", other, got)
				}
			}
			checkCode(t, m.e, set(1, oid, numbered(1)), impl.EngBusy)
			checkCode(t, m.e, set(2, oid, numbered(1)), impl.EngGood)
		}
	}
}

func TestSetAgain(t *testing.T) {
	e := engineOf(t, begin(), begin(), set(1, 5, numbered(1)), set(2, 6, numbered(2)), set(1, 5, numbered(3)), set(1, 5, impl.Slot{}), set(2, 4, numbered(4)), set(2, 6, numbered(5))).e
	want := []impl.Rec{
		{Lsn: 1, Tx: 1, Kind: 1, Oid: 5, After: numbered(1)},
		{Lsn: 2, Tx: 2, Kind: 1, Oid: 6, After: numbered(2)},
		{Lsn: 3, Tx: 1, Prev: 1, Kind: 1, Oid: 5, Before: numbered(1), After: numbered(3)},
		{Lsn: 4, Tx: 1, Prev: 3, Kind: 1, Oid: 5, Before: numbered(3)},
		{Lsn: 5, Tx: 2, Prev: 2, Kind: 1, Oid: 4, After: numbered(4)},
		{Lsn: 6, Tx: 2, Prev: 5, Kind: 1, Oid: 6, Before: numbered(2), After: numbered(5)},
	}
	if !sameLogs(e.Log, impl.Log{Recs: want}) {
		t.Errorf("the log: %+v", e.Log)
	}
	if !slices.Equal(e.Holds, []impl.Hold{{Tx: 1, Oid: 5}, {Tx: 2, Oid: 6}, {Tx: 2, Oid: 4}}) {
		t.Errorf("holds: %v", e.Holds)
	}
	if !slices.Equal(e.Txs, []impl.Live{{Tx: 1, Last: 4}, {Tx: 2, Last: 6}}) || len(e.Pool.Seats) != 1 || e.Pool.Seats[0].P.Lsn != 6 {
		t.Errorf("transactions %v, seats %v", e.Txs, e.Pool.Seats)
	}
}

var wrongOids = []int{0, -1, -31, impl.MaxOid + 1, impl.MaxOid + 2, math.MaxInt64, math.MinInt64}

var notUnderWay = []int{0, -1, 1, 2, 7, impl.MaxTx, impl.MaxTx + 1, math.MaxInt64, math.MinInt64}

// callsOf are all calls, of what is as told.
func callsOf(tx int, oid int, no int) []engCall {
	return []engCall{begin(), set(tx, oid, numbered(1)), get(oid), commit(tx), abort(tx), flush(no), check()}
}

func TestCallsRefuseWhatIsHandedIn(t *testing.T) {
	busy := busyEngine(t)
	for _, oid := range wrongOids {
		checkCode(t, busy, set(3, oid, numbered(1)), impl.EngForm)
		checkCode(t, busy, get(oid), impl.EngForm)
	}
	for _, s := range wrongSlots() {
		checkCode(t, busy, set(3, 5, s), impl.EngForm)
		checkCode(t, busy, set(9, 0, s), impl.EngForm)
	}
	for _, no := range wrongNos {
		checkCode(t, busy, flush(no), impl.EngForm)
	}
	for _, tx := range notUnderWay {
		for _, c := range []engCall{set(tx, 20, numbered(1)), set(tx, busy.Holds[0].Oid, numbered(1)), commit(tx), abort(tx)} {
			checkCode(t, busy, c, impl.EngNone)
		}
	}
	for _, tx := range []int{3, 4, 5, 6} {
		for _, h := range busy.Holds {
			want := impl.EngBusy
			if h.Tx == tx {
				want = impl.EngGood
			}
			checkCode(t, busy, set(tx, h.Oid, numbered(1)), want)
		}
	}
	for no := range impl.Pages {
		checkCode(t, busy, flush(no), impl.EngGood)
	}
	for oid := 1; oid <= impl.MaxOid; oid++ {
		checkCode(t, busy, get(oid), impl.EngGood)
	}
}

func TestCallsRefuseWhatIsNoEngine(t *testing.T) {
	for _, w := range wrongEngines(t) {
		for _, c := range append(callsOf(3, 5, 1), set(9, 0, impl.Slot{}), abort(0)) {
			a := callEngine(w.e, c)
			if a.code != impl.EngForm || a.tx != 0 || !sameSlot(a.s, impl.Slot{}) || !sameEngines(a.e, w.e) {
				t.Fatalf("%s, %v: %d, %v, code %d", w.why, c, a.tx, a.s, a.code)
			}
		}
	}
	for _, e := range goodEngines(t) {
		if !e.Down {
			continue
		}
		for _, c := range append(callsOf(3, 5, 1), set(9, 0, impl.Slot{}), abort(0)) {
			checkCode(t, e, c, impl.EngForm)
		}
	}
}

func TestCallsAtTheEdgeOfTheLog(t *testing.T) {
	for count, full := range map[int]bool{impl.MaxRecs - 201: false, impl.MaxRecs - 200: false, impl.MaxRecs - 199: true, impl.MaxRecs - 198: true, impl.MaxRecs - 1: true, impl.MaxRecs: true} {
		e := longEngine(count, 3)
		if !impl.EngineOk(e) {
			t.Fatalf("%d records are a log", count)
		}
		for _, tx := range []int{2, 3} {
			for _, c := range callsOf(tx, 9, 1) {
				want := impl.EngGood
				if full {
					want = impl.EngFull
				}
				checkCode(t, e, c, want)
			}
		}
		// The form counts ahead of the room, the room ahead of who is not under way or busy.
		for want, calls := range map[int][]engCall{
			impl.EngForm: {set(2, 0, numbered(1)), set(2, 32, numbered(1)), set(7, 5, wrongSlots()[0]), get(0), get(32), flush(-1), flush(8)},
			impl.EngNone: {set(1, 5, numbered(1)), set(4, 9, numbered(1)), commit(1), commit(4), abort(1), abort(4)},
			impl.EngBusy: {set(3, 5, numbered(1))},
		} {
			for _, c := range calls {
				if full && want != impl.EngForm {
					want = impl.EngFull
				}
				checkCode(t, e, c, want)
			}
		}
	}
	e := longEngine(impl.MaxRecs+1, 3)
	for _, c := range callsOf(2, 9, 1) {
		checkCode(t, e, c, impl.EngForm)
	}
	e = longEngine(impl.MaxRecs-199, 0)
	e = impl.Engine{Log: e.Log, Next: 4, Down: true}
	for _, c := range callsOf(2, 9, 1) {
		checkCode(t, e, c, impl.EngForm)
	}
}

func TestBeginOfAFullEngine(t *testing.T) {
	six := []impl.Live{{Tx: 5}, {Tx: 6}, {Tx: 7}, {Tx: 8}, {Tx: 9}, {Tx: 10}}
	for _, count := range []int{impl.MaxRecs - 200, impl.MaxRecs - 199} {
		e := longEngine(count, 0)
		e.Txs, e.Next = six, 11
		checkCode(t, e, begin(), impl.EngFull)
		e.Next = impl.MaxTx + 1
		checkCode(t, e, begin(), impl.EngFull)
		e.Txs = six[:5]
		checkCode(t, e, begin(), impl.EngFull)
		e.Next = impl.MaxTx + 2
		checkCode(t, e, begin(), impl.EngForm)
	}
}

func TestAFetchWritesWhoGoesAndTheLogAhead(t *testing.T) {
	m := engineOf(t, begin(), set(1, 1, numbered(1)), set(1, 5, numbered(2)), set(1, 2, numbered(3)), get(9))
	if m.e.Log.Sure != 0 || m.e.Disk[0].Lsn != 0 || len(m.e.Pool.Seats) != 3 {
		t.Fatalf("nothing had to go: %+v", m.e)
	}
	for _, c := range []engCall{get(13), set(1, 13, numbered(4))} {
		e := m.then(c).e
		// Page 0 goes, its last record is the third; page 1 is not written.
		if e.Log.Sure != 3 || e.Disk[0].Lsn != 3 || !sameSlot(e.Disk[0].Slots[1], numbered(1)) || !sameSlot(e.Disk[0].Slots[2], numbered(3)) || e.Disk[1].Lsn != 0 {
			t.Errorf("%v: sure %d, disk %v", c, e.Log.Sure, e.Disk)
		}
		if e.Pool.Seats[0].No != 3 || e.Pool.Seats[0].Dirty != (c.name == "set") || e.Pool.Hand != 1 {
			t.Errorf("%v: %v", c, e.Pool)
		}
	}
	e := m.then(get(13)).e
	// Page 1 goes: what is sure stays sure, though its record is an earlier one.
	if e = (engMaker{t, e}).then(get(17)).e; e.Log.Sure != 3 || e.Disk[1].Lsn != 2 || e.Disk[0].Lsn != 3 {
		t.Errorf("sure %d, disk %v", e.Log.Sure, e.Disk)
	}
	// Page 2 goes, which was never changed: nothing is written.
	was := e
	if e = (engMaker{t, e}).then(get(21)).e; e.Log.Sure != 3 || plainSeated(e.Pool, 2) >= 0 {
		t.Errorf("sure %d, seats %v", e.Log.Sure, e.Pool)
	}
	for no := range e.Disk {
		if !samePage(e.Disk[no], was.Disk[no]) {
			t.Errorf("page %d was written: %v", no, e.Disk[no])
		}
	}
	// What was written comes back.
	if _, s, _ := impl.Get(e, 2); !sameSlot(s, numbered(3)) {
		t.Errorf("object 2: %v", s)
	}
	again := engMaker{t, e}.then(get(1))
	if at := plainSeated(again.e.Pool, 0); !samePage(again.e.Pool.Seats[at].P, e.Disk[0]) || again.e.Pool.Seats[at].Dirty {
		t.Errorf("page 0: %v", again.e.Pool)
	}
}

// A seat that is Dirty is written, whatever its Lsn is: it may be 0, or below that on the disk.
func TestAFetchWritesWhatIsDirtyWhateverItsLsn(t *testing.T) {
	e := impl.Engine{Next: 2, Log: impl.Log{Recs: []impl.Rec{{Lsn: 1, Tx: 1, Kind: impl.RecEnd}, {Lsn: 2, Tx: 1, Kind: impl.RecEnd}}, Sure: 1}}
	for no := range 3 {
		p := impl.Page{Lsn: no}
		p.Slots[1] = numbered(no)
		e.Pool.Seats = append(e.Pool.Seats, impl.Seat{No: no, P: p, Dirty: true})
		e.Disk[no].Lsn = 1
	}
	for hand := range 3 {
		e.Pool.Hand = hand
		a := checkCall(t, e, get(29))
		if !samePage(a.e.Disk[hand], e.Pool.Seats[hand].P) || a.e.Log.Sure != max(1, hand) {
			t.Errorf("page %d: %v, sure %d", hand, a.e.Disk[hand], a.e.Log.Sure)
		}
		checkCall(t, e, flush(hand))
	}
}

func TestGet(t *testing.T) {
	e, s, code := impl.Get(impl.EngineNew(), 31)
	if code != impl.EngGood || s.Has || !samePools(e.Pool, impl.Pool{Seats: []impl.Seat{{No: 7, Hot: true}}}) || len(e.Log.Recs) != 0 {
		t.Errorf("of nothing: %v, %d, %+v", s, code, e)
	}
	// What is not yet committed is told, whoever asks.
	e = engineOf(t, begin(), set(1, 1, numbered(1)), commit(1), begin(), set(2, 1, numbered(2))).e
	if _, s, _ := impl.Get(e, 1); !sameSlot(s, numbered(2)) {
		t.Errorf("%v", s)
	}
	e.Pool.Seats[0].Hot = false
	out, _, _ := impl.Get(e, 2)
	if !out.Pool.Seats[0].Hot || !out.Pool.Seats[0].Dirty {
		t.Errorf("a page that is looked at is used: %v", out.Pool)
	}
}

func TestCommit(t *testing.T) {
	m := engineOf(t, begin(), begin(), set(2, 5, numbered(1)), set(1, 6, numbered(2)), set(2, 30, numbered(3)), set(1, 31, numbered(4)))
	e := m.then(commit(2)).e
	want := append(slices.Clone(m.e.Log.Recs), impl.Rec{Lsn: 5, Tx: 2, Prev: 3, Kind: impl.RecCommit}, impl.Rec{Lsn: 6, Tx: 2, Prev: 5, Kind: impl.RecEnd})
	if !sameLogs(e.Log, impl.Log{Recs: want, Sure: 5}) {
		t.Errorf("the log: %+v", e.Log)
	}
	if !slices.Equal(e.Txs, []impl.Live{{Tx: 1, Last: 4}}) || !slices.Equal(e.Holds, []impl.Hold{{Tx: 1, Oid: 6}, {Tx: 1, Oid: 31}}) || !samePools(e.Pool, m.e.Pool) || e.Next != 3 {
		t.Errorf("%v, %v, %v", e.Txs, e.Holds, e.Pool)
	}
	for _, p := range e.Disk {
		if p.Lsn != 0 {
			t.Errorf("a commit writes no page: %v", p)
		}
	}
	checkCode(t, e, set(1, 5, numbered(9)), impl.EngGood)
	for _, c := range []engCall{set(2, 20, numbered(9)), commit(2), abort(2)} {
		checkCode(t, e, c, impl.EngNone)
	}
}

func TestWhoHasNoRecordYetIsEnded(t *testing.T) {
	m := engineOf(t, begin(), begin(), set(1, 5, numbered(1)))
	for name, kind := range map[string]int{"commit": impl.RecCommit, "abort": impl.RecAbort} {
		e := m.then(engCall{name: name, tx: 2}).e
		sure := 0
		if name == "commit" {
			sure = 2
		}
		want := append(slices.Clone(m.e.Log.Recs), impl.Rec{Lsn: 2, Tx: 2, Kind: kind}, impl.Rec{Lsn: 3, Tx: 2, Prev: 2, Kind: impl.RecEnd})
		if !sameLogs(e.Log, impl.Log{Recs: want, Sure: sure}) || !slices.Equal(e.Txs, m.e.Txs[:1]) || !slices.Equal(e.Holds, m.e.Holds) || !samePools(e.Pool, m.e.Pool) {
			t.Errorf("%s: %+v", name, e)
		}
	}
}

func TestAbort(t *testing.T) {
	was := engineOf(t, begin(), set(1, 5, numbered(1)), set(1, 6, numbered(2)), set(1, 25, numbered(3)), commit(1), begin(), begin(), set(2, 29, numbered(4)))
	// 5 is set twice, 7 from nothing, 6 to nothing, 8 from nothing and to nothing; a check stands between.
	m := was.then(set(3, 5, numbered(10)), set(3, 7, numbered(11)), set(3, 5, numbered(12)), check(), set(3, 6, impl.Slot{}), set(2, 30, numbered(13)), set(3, 8, impl.Slot{}))
	e := m.then(abort(3)).e
	back := func(lsn int, oid int, after impl.Slot, next int) impl.Rec {
		return impl.Rec{Lsn: lsn, Tx: 3, Prev: lsn - 1, Kind: impl.RecBack, Oid: oid, After: after, Next: next}
	}
	want := append(slices.Clone(m.e.Log.Recs), impl.Rec{Lsn: 14, Tx: 3, Prev: 13, Kind: impl.RecAbort},
		back(15, 8, impl.Slot{}, 11), back(16, 6, numbered(2), 9), back(17, 5, numbered(10), 8), back(18, 7, impl.Slot{}, 7), back(19, 5, numbered(1), 0),
		impl.Rec{Lsn: 20, Tx: 3, Prev: 19, Kind: impl.RecEnd})
	if !sameLogs(e.Log, impl.Log{Recs: want, Sure: e.Log.Sure}) {
		t.Errorf("the log: %+v", e.Log)
	}
	for oid := 1; oid <= impl.MaxOid; oid++ {
		got, before := plainLook(e, oid), plainLook(was.e, oid)
		if oid == 30 {
			before = numbered(13)
		}
		if !sameSlot(got, before) {
			t.Errorf("object %d is %v, was %v", oid, got, before)
		}
	}
	if !slices.Equal(e.Txs, []impl.Live{{Tx: 2, Last: 12}}) || !slices.Equal(e.Holds, []impl.Hold{{Tx: 2, Oid: 29}, {Tx: 2, Oid: 30}}) {
		t.Errorf("%v, %v", e.Txs, e.Holds)
	}
	for _, c := range []engCall{set(3, 20, numbered(9)), commit(3), abort(3)} {
		checkCode(t, e, c, impl.EngNone)
	}
	checkCode(t, e, set(2, 5, numbered(9)), impl.EngGood)
}

// Of a transaction whose records are of many kinds the RecSets alone are undone, from the last one back.
func TestAbortOfWhatCameOfNoCalls(t *testing.T) {
	recs := []impl.Rec{
		{Lsn: 1, Tx: 2, Kind: impl.RecSet, Oid: 5, After: numbered(1)},
		{Lsn: 2, Tx: 2, Prev: 1, Kind: impl.RecAbort},
		{Lsn: 3, Tx: 1, Kind: impl.RecSet, Oid: 9, After: numbered(2)},
		{Lsn: 4, Tx: 2, Prev: 2, Kind: impl.RecBack, Oid: 5},
		{Lsn: 5, Kind: impl.RecCheck, Txs: []impl.Live{{Tx: 2, Last: 4}}},
		{Lsn: 6, Tx: 2, Prev: 4, Kind: impl.RecSet, Oid: 17, Before: numbered(7), After: numbered(3)},
		{Lsn: 7, Tx: 2, Prev: 6, Kind: impl.RecCommit},
	}
	e := impl.Engine{Log: impl.Log{Recs: recs}, Txs: []impl.Live{{Tx: 2, Last: 7}}, Next: 3}
	a := checkCall(t, e, abort(2))
	want := append(slices.Clone(recs), impl.Rec{Lsn: 8, Tx: 2, Prev: 7, Kind: impl.RecAbort},
		impl.Rec{Lsn: 9, Tx: 2, Prev: 8, Kind: impl.RecBack, Oid: 17, After: numbered(7), Next: 4},
		impl.Rec{Lsn: 10, Tx: 2, Prev: 9, Kind: impl.RecBack, Oid: 5}, impl.Rec{Lsn: 11, Tx: 2, Prev: 10, Kind: impl.RecEnd})
	if a.code != impl.EngGood || !sameLogs(a.e.Log, impl.Log{Recs: want}) {
		t.Errorf("%d: %+v", a.code, a.e.Log)
	}
}

func TestAbortOverMorePagesThanSeats(t *testing.T) {
	for first := range impl.Pages {
		m := engineOf(t, begin(), begin())
		var calls []engCall
		for i := range 24 {
			oid := max(1, (4*(first+i)+i/8)%32)
			calls = append(calls, set(1, oid, numbered(i)))
		}
		m = m.then(calls...)
		e := m.then(abort(1)).e
		for oid := 1; oid <= impl.MaxOid; oid++ {
			if s := plainLook(e, oid); s.Has {
				t.Errorf("object %d is %v, was nothing", oid, s)
			}
		}
		checkLogAhead(t, e)
		checkCall(t, m.e, abort(1))
	}
}

func TestAbortAtTheEdgeOfTheLog(t *testing.T) {
	for _, x := range []struct{ count, own, code int }{
		{1999, 1999, impl.EngGood}, {2000, 1999, impl.EngFull}, {2000, 2000, impl.EngFull}, {2000, 1998, impl.EngGood}, {2001, 1998, impl.EngFull},
		{3800, 198, impl.EngGood}, {3800, 199, impl.EngFull}, {3799, 199, impl.EngGood}, {3799, 200, impl.EngFull}, {3800, 3800, impl.EngFull}, {3801, 1, impl.EngFull},
		{3800, 0, impl.EngGood},
	} {
		e := longEngine(x.count, x.own)
		a := checkCall(t, e, abort(2))
		if a.code != x.code || x.code == impl.EngGood && len(a.e.Log.Recs) != x.count+x.own+2 {
			t.Errorf("%v: code %d, %d records", x, a.code, len(a.e.Log.Recs))
		}
		if x.code == impl.EngGood && (plainLook(a.e, 5).Has || !impl.EngineOk(a.e)) {
			t.Errorf("%v: object 5 is %v", x, plainLook(a.e, 5))
		}
		if x.code == impl.EngFull && x.count <= 3800 {
			// Who is not under way counts ahead of the room that it would need; another one has room.
			checkCode(t, e, abort(1), impl.EngNone)
			checkCode(t, e, abort(3), impl.EngGood)
			checkCode(t, e, commit(2), impl.EngGood)
		}
	}
}

// The room is asked for as many records as the transaction has, though not all of them are to be undone.
func TestAbortCountsAllRecords(t *testing.T) {
	for own, code := range map[int]int{198: impl.EngGood, 199: impl.EngFull} {
		e := longEngine(impl.MaxRecs-200, 1)
		for i := 1; i < own; i++ {
			e.Log.Recs[i].Tx = 2
		}
		e.Txs[0].Last = own
		checkCode(t, e, abort(2), code)
	}
}

func TestFlush(t *testing.T) {
	m := engineOf(t, begin(), set(1, 5, numbered(1)), set(1, 9, numbered(2)), set(1, 6, numbered(3)), set(1, 10, numbered(4)), get(1))
	e := m.then(flush(1)).e
	if e.Log.Sure != 3 || !samePage(e.Disk[1], m.e.Pool.Seats[0].P) || e.Disk[2].Lsn != 0 {
		t.Errorf("sure %d, disk %v", e.Log.Sure, e.Disk)
	}
	pool := clonePool(m.e.Pool)
	pool.Seats[0].Dirty = false
	if !samePools(e.Pool, pool) || len(e.Log.Recs) != 4 || !slices.Equal(e.Holds, m.e.Holds) {
		t.Errorf("%v, %v", e.Pool, e.Log)
	}
	// It stands as it is: written already, never changed, without a seat.
	for _, no := range []int{1, 0, 3, 7} {
		if out := (engMaker{t, e}).then(flush(no)).e; !sameEngines(out, e) {
			t.Errorf("page %d: %+v", no, out)
		}
	}
	both := engMaker{t, e}.then(flush(2)).e
	if both.Log.Sure != 4 || both.Disk[2].Lsn != 4 || both.Disk[1].Lsn != 3 {
		t.Errorf("sure %d, disk %v", both.Log.Sure, both.Disk)
	}
	// A page of earlier records leaves sure what is.
	if e := m.then(flush(2), flush(1)).e; e.Log.Sure != 4 || e.Disk[1].Lsn != 3 {
		t.Errorf("sure %d, disk %v", e.Log.Sure, e.Disk)
	}
	cold := deepEngine(m.e)
	cold.Pool.Seats[0].Hot = false
	if out := (engMaker{t, cold}).then(flush(1)).e; out.Pool.Seats[0].Hot {
		t.Error("a page that is written is not used by that")
	}
}

func TestCheck(t *testing.T) {
	e := engineOf(t, check()).e
	if !sameEngines(e, impl.Engine{Next: 1, Log: impl.Log{Recs: []impl.Rec{{Lsn: 1, Kind: impl.RecCheck}}, Sure: 1}}) {
		t.Errorf("of nothing: %+v", e)
	}
	m := engineOf(t, begin(), begin(), begin(), begin(), set(3, 5, numbered(1)), set(1, 9, numbered(2)), set(3, 6, numbered(3)), set(4, 1, numbered(4)), commit(4))
	e = m.then(check()).e
	want := append(slices.Clone(m.e.Log.Recs), impl.Rec{Lsn: 7, Kind: impl.RecCheck, Txs: []impl.Live{{Tx: 1, Last: 2}, {Tx: 3, Last: 3}}})
	if !sameLogs(e.Log, impl.Log{Recs: want, Sure: 7}) || !slices.Equal(e.Txs, m.e.Txs) || !slices.Equal(e.Holds, m.e.Holds) || !samePools(e.Pool, m.e.Pool) {
		t.Errorf("%+v", e)
	}
	all := engineOf(t, begin(), begin(), begin(), begin(), begin(), begin(), set(1, 1, numbered(1)), set(2, 2, numbered(1)), set(3, 3, numbered(1)), set(4, 4, numbered(1)), set(5, 5, numbered(1)), set(6, 6, numbered(1)), check()).e
	if got := all.Log.Recs[6].Txs; len(got) != impl.MaxLive || got[5] != (impl.Live{Tx: 6, Last: 6}) || !impl.EngineOk(all) {
		t.Errorf("%v", got)
	}
}

// engineRoom is an engine whose lists, all of them, have something foreign in the room behind their lengths.
func engineRoom() (impl.Engine, func() bool) {
	l, logKept := logRoom()
	pool, poolKept := poolRoom(3)
	txs := []impl.Live{{Tx: 1, Last: 7}, {Tx: 2}, {Tx: 7, Last: 7, Aborts: true}, {Tx: 7}}
	holds := []impl.Hold{{Tx: 1, Oid: 3}, {Tx: 2, Oid: 30}, {Tx: 7, Oid: 7}, {Tx: 7, Oid: 7}}
	txsWere, holdsWere := slices.Clone(txs), slices.Clone(holds)
	e := impl.Engine{Pool: pool, Log: l, Txs: txs[:2], Holds: holds[:2], Next: 3}
	e.Log.Sure = 8
	var rooms [][2][]int
	for no := range e.Disk {
		e.Disk[no].Lsn = 5
		for slot := range e.Disk[no].Slots {
			s, r := spareSlot()
			e.Disk[no].Slots[slot] = s
			rooms = append(rooms, r)
		}
	}
	kept := func() bool {
		ok := logKept() && poolKept() && slices.Equal(txs, txsWere) && slices.Equal(holds, holdsWere)
		for _, r := range rooms {
			ok = ok && roomsKept(r)
		}
		return ok
	}
	return e, kept
}

// scribbleEngine writes over all that hangs at an engine, and over the room behind each list.
func scribbleEngine(e impl.Engine) {
	for _, p := range e.Disk {
		for _, list := range listsOf(p) {
			scribble(list)
		}
	}
	scribblePool(e.Pool)
	scribbleLog(e.Log)
	clear(e.Txs[:cap(e.Txs)])
	clear(e.Holds[:cap(e.Holds)])
}

// roomCalls are calls that are good, and such as are refused, for the engine of engineRoom.
func roomCalls(s impl.Slot) []engCall {
	calls := []engCall{begin(), check(), commit(1), commit(2), commit(3), abort(1), abort(2), abort(3)}
	for oid := range 33 {
		calls = append(calls, get(oid), set(1, oid, s), set(2, oid, s))
	}
	for no := -1; no <= 8; no++ {
		calls = append(calls, flush(no))
	}
	return append(calls, set(1, 3, impl.Slot{O: s.O}), set(3, 9, s))
}

func TestEngineArgumentsAreLeft(t *testing.T) {
	e, kept := engineRoom()
	if !impl.EngineOk(e) || !kept() {
		t.Fatalf("the engine is one: %+v", e)
	}
	down, wrong := e, e
	down.Down, wrong.Next = true, 2
	s, rooms := spareSlot()
	for _, e := range []impl.Engine{e, down, wrong} {
		for _, c := range roomCalls(s) {
			a := callEngine(e, c)
			impl.EngineOk(e)
			if !kept() || !roomsKept(rooms) {
				t.Fatalf("%v: an argument was written into", c)
			}
			scribbleEngine(a.e)
			scribble(a.s.O.Ints)
			scribble(a.s.O.Refs)
			if !kept() || !roomsKept(rooms) {
				t.Fatalf("%v: an argument is shared", c)
			}
		}
	}
}

// engineLists are all lists of numbers of an answer.
func engineLists(a engAnswer) [][]int {
	var out [][]int
	for _, p := range a.e.Disk {
		out = append(out, listsOf(p)...)
	}
	out = append(out, poolLists(a.e.Pool, impl.Seat{})...)
	out = append(out, logLists(a.e.Log)...)
	return append(out, a.s.O.Ints, a.s.O.Refs)
}

// liveLists are all lists of transactions of an answer.
func liveLists(a engAnswer) [][]impl.Live {
	out := [][]impl.Live{a.e.Txs}
	for _, r := range a.e.Log.Recs {
		out = append(out, r.Txs)
	}
	return out
}

func TestEngineAnswersShareNothing(t *testing.T) {
	list := []int{1, 2, 3}
	s := slotOf(7, list, list)
	var calls []engCall
	for i := range 6 {
		calls = append(calls, set(1, 4*i+1, s), set(1, 4*i+1, s))
	}
	m := engineOf(t, begin(), begin(), set(2, 31, s), check()).then(calls...).then(check())
	// Another list for each of its places is not what is asked of an argument.
	shared := m.e
	for i := range shared.Log.Recs {
		if shared.Log.Recs[i].Kind == impl.RecSet {
			shared.Log.Recs[i].After = s
		}
	}
	wrong := shared
	wrong.Next = 0
	for _, e := range []impl.Engine{m.e, shared, wrong} {
		for _, c := range []engCall{begin(), set(1, 5, s), set(1, 29, s), set(2, 5, s), get(5), get(21), commit(1), commit(9), abort(1), abort(2), flush(5), flush(1), check()} {
			want := callEngine(e, c)
			lists, lives := engineLists(want), liveLists(want)
			for i := range lists {
				if len(lists[i]) == 0 {
					continue
				}
				a := callEngine(e, c)
				got := engineLists(a)
				scribble(got[i])
				for j := range got {
					if j != i && !slices.Equal(got[j], lists[j]) {
						t.Fatalf("%v: list %d changed with list %d", c, j, i)
					}
				}
			}
			for i := range lives {
				got := liveLists(callEngine(e, c))
				clear(got[i][:cap(got[i])])
				for j := range got {
					if j != i && !slices.Equal(got[j], lives[j]) {
						t.Fatalf("%v: the transactions at %d changed with those at %d", c, j, i)
					}
				}
			}
		}
	}
	if !slices.Equal(list, []int{1, 2, 3}) {
		t.Errorf("an answer shares memory with an argument: %v", list)
	}
}

func TestEngineCallsKeepNothing(t *testing.T) {
	e := busyEngine(t)
	calls := append(callsOf(3, 5, 1), set(5, 31, numbered(1)), set(9, 0, numbered(1)), get(20))
	var first []engAnswer
	for _, c := range calls {
		first = append(first, callEngine(e, c))
	}
	for _, w := range wrongEngines(t)[:200] {
		for _, c := range calls {
			scribbleEngine(callEngine(w.e, c).e)
		}
	}
	for range 2 {
		for i, c := range calls {
			a := callEngine(e, c)
			if a.code != first[i].code || a.tx != first[i].tx || !sameSlot(a.s, first[i].s) || !sameEngines(a.e, first[i].e) {
				t.Errorf("%v: what was called ahead is seen: %+v", c, a)
			}
			scribbleEngine(a.e)
		}
	}
	made := impl.EngineNew()
	made.Disk[3].Lsn, made.Next = 9, 9
	if !sameEngines(impl.EngineNew(), impl.Engine{Next: 1}) {
		t.Error("EngineNew keeps what was made of it")
	}
}
