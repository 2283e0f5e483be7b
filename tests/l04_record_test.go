package tests

import (
	"bytes"
	"math"
	"slices"
	"testing"

	"loop.example/g00181/impl"
)

var recKinds = []int{impl.RecSet, impl.RecCommit, impl.RecAbort, impl.RecBack, impl.RecEnd, impl.RecCheck}

// livesOf are as many transactions under way, each of whose last record has this Lsn.
func livesOf(count int, last int) []impl.Live {
	out := make([]impl.Live, count)
	for i := range out {
		out[i] = impl.Live{Tx: 3*i + 1, Last: last, Aborts: i%2 == 1}
	}
	return out
}

// plainRecOf is a record of this kind with all that the kind names, and nothing else.
func plainRecOf(kind int) impl.Rec {
	switch kind {
	case impl.RecSet:
		return impl.Rec{Lsn: 9, Tx: 3, Prev: 4, Kind: kind, Oid: 6, Before: slotOf(7, []int{5, -1}, []int{0, 31}), After: slotOf(2, nil, nil)}
	case impl.RecBack:
		return impl.Rec{Lsn: 9, Tx: 3, Prev: 4, Kind: kind, Oid: 6, After: slotOf(7, []int{5, -1}, []int{0, 31}), Next: 2}
	case impl.RecCheck:
		return impl.Rec{Lsn: 9, Kind: kind, Txs: []impl.Live{{Tx: 1, Last: 4}, {Tx: 3, Last: 2, Aborts: true}}}
	}
	return impl.Rec{Lsn: 9, Tx: 3, Prev: 4, Kind: kind}
}

// sampleRecs are records of every kind, at every edge of what it names.
func sampleRecs() []impl.Rec {
	var out []impl.Rec
	for _, kind := range recKinds {
		for _, lsn := range []int{1, 2, 9, 64, 8192, impl.MaxLsn - 1, impl.MaxLsn} {
			for _, ahead := range []int{0, 1, lsn - 1} {
				if ahead >= lsn {
					continue
				}
				r := plainRecOf(kind)
				r.Lsn = lsn
				if kind == impl.RecCheck {
					r.Txs = nil
					out = append(out, r)
					if ahead > 0 {
						out = append(out, checksOf(r, ahead)...)
					}
					continue
				}
				r.Prev = ahead
				if kind == impl.RecBack {
					r.Next = lsn - 1 - ahead
				}
				out = append(out, r)
			}
		}
		if kind != impl.RecCheck {
			out = append(out, recsOf(kind)...)
		}
	}
	return out
}

// checksOf are records as r, of one transaction to the most, at the edges of Tx.
func checksOf(r impl.Rec, last int) []impl.Rec {
	var out []impl.Rec
	for _, txs := range [][]impl.Live{
		{{Tx: 1, Last: last}}, {{Tx: impl.MaxTx, Last: last, Aborts: true}}, {{Tx: 1, Last: last, Aborts: true}, {Tx: impl.MaxTx, Last: 1}},
		livesOf(2, last), livesOf(19, last), livesOf(20, last),
	} {
		r.Txs = txs
		out = append(out, r)
	}
	return out
}

// recsOf are records of a kind that has a transaction, with each of its edges, and each slot where it names some.
func recsOf(kind int) []impl.Rec {
	var out []impl.Rec
	for _, tx := range []int{1, 2, 63, 64, impl.MaxTx - 1, impl.MaxTx} {
		r := plainRecOf(kind)
		r.Tx = tx
		out = append(out, r)
	}
	if kind != impl.RecSet && kind != impl.RecBack {
		return out
	}
	for oid := 1; oid <= impl.MaxOid; oid++ {
		r := plainRecOf(kind)
		r.Oid = oid
		out = append(out, r)
	}
	for _, s := range sampleSlots() {
		r := plainRecOf(kind)
		r.After = s
		out = append(out, r)
		if kind == impl.RecSet {
			r.Before = s
			out = append(out, r)
			r.After = impl.Slot{}
			out = append(out, r)
		}
	}
	return out
}

// wrongRecs have one thing each that is not right.
func wrongRecs() []impl.Rec {
	out := []impl.Rec{{}, {Lsn: 9}, {Lsn: 9, Tx: 3, Prev: 4}}
	for _, kind := range []int{0, -1, 7, 8, 100, impl.MaxInt, math.MaxInt64, math.MinInt64} {
		for _, other := range recKinds {
			r := plainRecOf(other)
			r.Kind = kind
			out = append(out, r)
		}
	}
	for _, kind := range recKinds {
		out = append(out, wrongByNumber(kind)...)
		out = append(out, wrongByField(kind)...)
	}
	return append(append(out, wrongBySlot()...), wrongChecks()...)
}

// wrongByNumber has numbers one beyond each edge, and far beyond it, in what the kind names.
func wrongByNumber(kind int) []impl.Rec {
	var out []impl.Rec
	add := func(change func(r *impl.Rec, n int), list ...int) {
		for _, n := range list {
			r := plainRecOf(kind)
			change(&r, n)
			out = append(out, r)
		}
	}
	add(func(r *impl.Rec, n int) { r.Lsn = n }, 0, -1, impl.MaxLsn+1, impl.MaxInt, math.MaxInt64, math.MinInt64)
	if kind == impl.RecCheck {
		return out
	}
	ahead := []int{9, 10, -1, -9, impl.MaxLsn, math.MaxInt64, math.MinInt64}
	add(func(r *impl.Rec, n int) { r.Tx = n }, 0, -1, impl.MaxTx+1, impl.MaxInt, math.MaxInt64, math.MinInt64)
	add(func(r *impl.Rec, n int) { r.Prev = n }, ahead...)
	if kind == impl.RecSet || kind == impl.RecBack {
		add(func(r *impl.Rec, n int) { r.Oid = n }, 0, -1, impl.MaxOid+1, impl.MaxInt, math.MaxInt64, math.MinInt64)
	}
	if kind == impl.RecBack {
		add(func(r *impl.Rec, n int) { r.Next = n }, ahead...)
	}
	return out
}

// wrongByField has each field that the kind does not name not zero, with values that would be right where one names it.
func wrongByField(kind int) []impl.Rec {
	whole := kind == impl.RecSet || kind == impl.RecBack
	var out []impl.Rec
	add := func(named bool, change func(r *impl.Rec)) {
		r := plainRecOf(kind)
		change(&r)
		if !named {
			out = append(out, r)
		}
	}
	for _, n := range []int{1, 2, 8, -1, math.MaxInt64, math.MinInt64} {
		add(kind != impl.RecCheck, func(r *impl.Rec) { r.Tx = n })
		add(kind != impl.RecCheck, func(r *impl.Rec) { r.Prev = n })
		add(whole, func(r *impl.Rec) { r.Oid = n })
		add(kind == impl.RecBack, func(r *impl.Rec) { r.Next = n })
	}
	for _, s := range append(fullSlots(), wrongSlots()...) {
		add(kind == impl.RecSet, func(r *impl.Rec) { r.Before = s })
		add(whole, func(r *impl.Rec) { r.After = s })
	}
	for _, txs := range [][]impl.Live{{{}}, {{Tx: 1, Last: 1}}, livesOf(20, 3), livesOf(21, 3)} {
		add(kind == impl.RecCheck, func(r *impl.Rec) { r.Txs = txs })
	}
	return out
}

func wrongBySlot() []impl.Rec {
	var out []impl.Rec
	for _, s := range wrongSlots() {
		set, other, back := plainRecOf(impl.RecSet), plainRecOf(impl.RecSet), plainRecOf(impl.RecBack)
		set.Before, other.After, back.After = s, s, s
		out = append(out, set, other, back)
	}
	return out
}

func wrongChecks() []impl.Rec {
	var out []impl.Rec
	good := impl.Live{Tx: 5, Last: 4}
	add := func(lsn int, txs ...impl.Live) { out = append(out, impl.Rec{Lsn: lsn, Kind: impl.RecCheck, Txs: txs}) }
	for _, tx := range []int{0, -1, impl.MaxTx + 1, math.MaxInt64, math.MinInt64} {
		add(9, impl.Live{Tx: tx, Last: 4})
		add(9, good, impl.Live{Tx: tx, Last: 4})
		add(9, impl.Live{Tx: tx, Last: 4}, good)
	}
	for _, last := range []int{0, -1, 9, 10, impl.MaxLsn, math.MaxInt64, math.MinInt64} {
		add(9, impl.Live{Tx: 6, Last: last})
		add(9, good, impl.Live{Tx: 6, Last: last})
		add(9, impl.Live{Tx: 4, Last: last, Aborts: true}, good)
	}
	add(9, good, good)
	add(9, good, impl.Live{Tx: 5, Last: 3, Aborts: true})
	add(9, impl.Live{Tx: 6, Last: 4}, good)
	add(9, impl.Live{Tx: 4, Last: 4}, impl.Live{Tx: 6, Last: 4}, good)
	add(1, impl.Live{Tx: 1, Last: 0})
	add(1, impl.Live{Tx: 1, Last: 1})
	add(9, livesOf(21, 4)...)
	add(9, livesOf(300, 4)...)
	return out
}

func sameRecs(a impl.Rec, b impl.Rec) bool {
	return a.Lsn == b.Lsn && a.Tx == b.Tx && a.Prev == b.Prev && a.Kind == b.Kind && a.Oid == b.Oid && a.Next == b.Next &&
		sameSlot(a.Before, b.Before) && sameSlot(a.After, b.After) && slices.Equal(a.Txs, b.Txs)
}

func isZeroRec(r impl.Rec) bool { return sameRecs(r, impl.Rec{}) }

func plainSlotOk(s impl.Slot) bool {
	_, ok := plainObj(bytesOf(plainNumbers(s.O)...))
	return s.Has && ok || !s.Has && isZeroObj(s.O)
}

// plainRecOk asks of each field by itself: the question that RecOk is held against.
func plainRecOk(r impl.Rec) bool {
	whole, check := r.Kind == 1 || r.Kind == 4, r.Kind == 6
	between := func(n int, least int, most int) bool { return n >= least && n <= most }
	ok := between(r.Lsn, 1, 1000000) && between(r.Kind, 1, 6) && len(r.Txs) <= 20 && (check || len(r.Txs) == 0)
	ok = ok && (check && r.Tx == 0 && r.Prev == 0 || !check && between(r.Tx, 1, 1000) && between(r.Prev, 0, r.Lsn-1))
	ok = ok && (whole && between(r.Oid, 1, 31) || !whole && r.Oid == 0)
	ok = ok && (r.Kind == 4 && between(r.Next, 0, r.Lsn-1) || r.Next == 0)
	ok = ok && (r.Kind == 1 && plainSlotOk(r.Before) || sameSlot(r.Before, impl.Slot{}))
	ok = ok && (whole && plainSlotOk(r.After) || sameSlot(r.After, impl.Slot{}))
	for i, live := range r.Txs {
		ok = ok && between(live.Tx, 1, 1000) && between(live.Last, 1, r.Lsn-1) && (i == 0 || live.Tx > r.Txs[i-1].Tx)
	}
	return ok
}

// plainRecBytes are a record's bytes, right or not.
func plainRecBytes(r impl.Rec) []byte {
	b := bytesOf(r.Lsn, r.Tx, r.Prev, r.Kind, r.Oid, r.Next)
	b = plainSlot(plainSlot(b, r.Before), r.After)
	b = append(b, bytesOf(len(r.Txs))...)
	for _, live := range r.Txs {
		flag := 0
		if live.Aborts {
			flag = 1
		}
		b = append(b, bytesOf(live.Tx, live.Last, flag)...)
	}
	return b
}

// plainRec reads a record's bytes: the reading that GetRec is held against.
func plainRec(b []byte) (impl.Rec, bool) {
	at, good := 0, true
	next := func() int {
		n, size, ok := plainInt(b[at:])
		at, good = at+size, good && ok
		return n
	}
	slot := func() impl.Slot {
		s, size, ok := plainSlotAt(b[at:])
		at, good = at+size, good && ok
		return s
	}
	r := impl.Rec{Lsn: next(), Tx: next(), Prev: next(), Kind: next(), Oid: next(), Next: next()}
	r.Before = slot()
	r.After = slot()
	count := next()
	if count < 0 || count > 20 {
		return impl.Rec{}, false
	}
	for range count {
		live := impl.Live{Tx: next(), Last: next()}
		flag := next()
		live.Aborts = flag == 1
		good = good && (flag == 0 || flag == 1)
		r.Txs = append(r.Txs, live)
	}
	if !good || at != len(b) || !plainRecOk(r) {
		return impl.Rec{}, false
	}
	return r, true
}

func TestRecordConstants(t *testing.T) {
	if !slices.Equal(recKinds, []int{1, 2, 3, 4, 5, 6}) || impl.MaxTx != 1000 {
		t.Errorf("kinds %v, MaxTx %d", recKinds, impl.MaxTx)
	}
}

func TestRecOk(t *testing.T) {
	for _, r := range sampleRecs() {
		if !impl.RecOk(r) || !plainRecOk(r) {
			t.Errorf("%+v is one", r)
		}
	}
	for _, r := range wrongRecs() {
		if impl.RecOk(r) || plainRecOk(r) {
			t.Errorf("%+v is none", r)
		}
	}
}

func TestRecOkAtTheEdges(t *testing.T) {
	for _, kind := range recKinds {
		for n := -3; n <= 13; n++ {
			// Prev is 4 and the greatest Last, too, so that these are what an Lsn must pass.
			r := plainRecOf(kind)
			r.Lsn = n
			if got := impl.RecOk(r); got != (n > 4) {
				t.Errorf("kind %d, Lsn %d: %v", kind, n, got)
			}
			if kind == impl.RecCheck {
				continue
			}
			r = plainRecOf(kind)
			r.Prev = n
			if got := impl.RecOk(r); got != (n >= 0 && n < 9) {
				t.Errorf("kind %d, Prev %d: %v", kind, n, got)
			}
			r = plainRecOf(kind)
			r.Next = n
			if got := impl.RecOk(r); got != (n == 0 || kind == impl.RecBack && n > 0 && n < 9) {
				t.Errorf("kind %d, Next %d: %v", kind, n, got)
			}
		}
		for n := -2; n <= impl.MaxTx+2; n++ {
			r := plainRecOf(kind)
			r.Tx = n
			if got := impl.RecOk(r); got != (kind == impl.RecCheck && n == 0 || kind != impl.RecCheck && n >= 1 && n <= 1000) {
				t.Errorf("kind %d, Tx %d: %v", kind, n, got)
			}
			r = plainRecOf(kind)
			r.Oid = n
			whole := kind == impl.RecSet || kind == impl.RecBack
			if got := impl.RecOk(r); got != (whole && n >= 1 && n <= 31 || !whole && n == 0) {
				t.Errorf("kind %d, Oid %d: %v", kind, n, got)
			}
		}
	}
}

func TestRecOkOfChecksAtTheEdges(t *testing.T) {
	for count := range 25 {
		if got := impl.RecOk(impl.Rec{Lsn: 9, Kind: impl.RecCheck, Txs: livesOf(count, 8)}); got != (count <= 20) {
			t.Errorf("%d transactions: %v", count, got)
		}
	}
	for n := -2; n <= impl.MaxTx+2; n++ {
		if got := impl.RecOk(impl.Rec{Lsn: 9, Kind: impl.RecCheck, Txs: []impl.Live{{Tx: n, Last: 1}}}); got != (n >= 1 && n <= 1000) {
			t.Errorf("a transaction %d: %v", n, got)
		}
		if got := impl.RecOk(impl.Rec{Lsn: 9, Kind: impl.RecCheck, Txs: []impl.Live{{Tx: 5, Last: n}}}); got != (n >= 1 && n < 9) {
			t.Errorf("a Last %d: %v", n, got)
		}
		if got := impl.RecOk(impl.Rec{Lsn: 9, Kind: impl.RecCheck, Txs: []impl.Live{{Tx: 5, Last: 2}, {Tx: n, Last: 1}}}); got != (n > 5 && n <= 1000) {
			t.Errorf("a transaction %d behind 5: %v", n, got)
		}
	}
}

func TestRecOkTakesEmptyListsAsNone(t *testing.T) {
	empty := impl.Slot{O: impl.Obj{Ints: []int{}, Refs: []int{}}}
	for _, kind := range recKinds {
		r := plainRecOf(kind)
		if kind != impl.RecCheck {
			r.Txs = []impl.Live{}
		}
		if kind != impl.RecSet {
			r.Before = empty
		}
		if kind != impl.RecSet && kind != impl.RecBack {
			r.After = empty
		}
		if !impl.RecOk(r) || !bytes.Equal(impl.PutRec(r), impl.PutRec(plainRecOf(kind))) {
			t.Errorf("kind %d: an empty list and nil are the same value", kind)
		}
	}
}

// TestRecOkOfManyFields goes through every choice of a few values a field, right ones and wrong ones.
func TestRecOkOfManyFields(t *testing.T) {
	slots := []impl.Slot{{}, slotOf(2, nil, nil), {O: impl.Obj{Kind: 2}}}
	lists := [][]impl.Live{nil, {{Tx: 1, Last: 1}}, {{Tx: 1}}}
	found := 0
	for kind := -1; kind <= 7; kind++ {
		for lsn := 0; lsn <= 2; lsn++ {
			for choice := range 3 * 4 * 4 * 4 * 3 * 3 * 3 {
				at := choice
				pick := func(count int) int {
					got := at % count
					at /= count
					return got
				}
				r := impl.Rec{Lsn: lsn, Kind: kind, Tx: pick(3), Prev: pick(4) - 1, Oid: pick(4) - 1, Next: pick(4) - 1}
				r.Before, r.After, r.Txs = slots[pick(3)], slots[pick(3)], lists[pick(3)]
				got := impl.RecOk(r)
				if got != plainRecOk(r) {
					t.Fatalf("%+v: %v", r, got)
				}
				if got {
					found++
				}
			}
		}
	}
	if found < 100 {
		t.Errorf("only %d records among them", found)
	}
}

func TestPutRecForms(t *testing.T) {
	object := slotOf(7, []int{5, -1}, []int{0, 31})
	for _, x := range []struct {
		r    impl.Rec
		want string
	}{
		{impl.Rec{Lsn: 1, Tx: 1, Kind: impl.RecCommit}, "\x02\x02\x00\x04\x00\x00\x00\x00\x00"},
		{impl.Rec{Lsn: 2, Tx: 1, Prev: 1, Kind: impl.RecAbort}, "\x04\x02\x02\x06\x00\x00\x00\x00\x00"},
		{impl.Rec{Lsn: impl.MaxLsn, Tx: impl.MaxTx, Prev: impl.MaxLsn - 1, Kind: impl.RecEnd}, "\x80\x89\x7a\xd0\x0f\xfe\x88\x7a\x0a\x00\x00\x00\x00\x00"},
		{impl.Rec{Lsn: 9, Tx: 3, Prev: 4, Kind: impl.RecSet, Oid: 6, Before: object}, "\x12\x06\x08\x02\x0c\x00\x0e\x0e\x04\x0a\x01\x04\x00\x3e\x00\x00"},
		{impl.Rec{Lsn: 9, Tx: 3, Prev: 4, Kind: impl.RecSet, Oid: 6, Before: slotOf(1, nil, nil), After: object}, "\x12\x06\x08\x02\x0c\x00\x06\x02\x00\x00\x0e\x0e\x04\x0a\x01\x04\x00\x3e\x00"},
		{impl.Rec{Lsn: 9, Tx: 3, Prev: 8, Kind: impl.RecBack, Oid: 31, After: slotOf(1, nil, nil), Next: 7}, "\x12\x06\x10\x08\x3e\x0e\x00\x06\x02\x00\x00\x00"},
		{impl.Rec{Lsn: 1, Kind: impl.RecCheck}, "\x02\x00\x00\x0c\x00\x00\x00\x00\x00"},
		{impl.Rec{Lsn: 5, Kind: impl.RecCheck, Txs: []impl.Live{{Tx: 1, Last: 4}, {Tx: 3, Last: 2, Aborts: true}}}, "\x0a\x00\x00\x0c\x00\x00\x00\x00\x04\x02\x08\x00\x06\x04\x02"},
	} {
		if got := impl.PutRec(x.r); string(got) != x.want {
			t.Errorf("PutRec of %+v: %x, want %x", x.r, got, x.want)
		}
		if got, ok := impl.GetRec([]byte(x.want)); !ok || !sameRecs(got, x.r) {
			t.Errorf("GetRec of %x: %+v %v", x.want, got, ok)
		}
	}
}

func TestRecordsComeBackOfTheirBytes(t *testing.T) {
	seen := map[string]impl.Rec{}
	for _, r := range sampleRecs() {
		b := impl.PutRec(r)
		if want := plainRecBytes(r); !bytes.Equal(b, want) {
			t.Errorf("PutRec of %+v: %x, want %x", r, b, want)
		}
		if got, ok := impl.GetRec(b); !ok || !sameRecs(got, r) {
			t.Errorf("GetRec of %+v: %+v %v", r, got, ok)
		}
		if other, ok := seen[string(b)]; ok && !sameRecs(other, r) {
			t.Errorf("%+v and %+v have the same bytes", other, r)
		}
		seen[string(b)] = r
	}
}

// checkRecBytes holds what GetRec tells of bytes against the plain reading.
func checkRecBytes(t *testing.T, b []byte) bool {
	t.Helper()
	got, ok := impl.GetRec(b)
	want, wantOk := plainRec(b)
	if ok != wantOk || !sameRecs(got, want) {
		t.Fatalf("GetRec of %x: %+v %v, want %+v %v", b, got, ok, want, wantOk)
	}
	if ok && !bytes.Equal(impl.PutRec(got), b) {
		t.Fatalf("%x is another form of %+v", b, got)
	}
	return ok
}

func TestNothingOfWhatIsNoRecord(t *testing.T) {
	for _, r := range wrongRecs() {
		if b := impl.PutRec(r); len(b) != 0 {
			t.Errorf("PutRec of %+v: %x", r, b)
		}
		checkRecBytes(t, plainRecBytes(r))
	}
}

func TestGetRecOfBytesCutOrWithMoreBehind(t *testing.T) {
	for _, r := range sampleRecs() {
		b := impl.PutRec(r)
		for cut := range b {
			// The list keeps its spare room: what lies there is not to be read.
			if got, ok := impl.GetRec(b[:cut]); ok || !isZeroRec(got) {
				t.Errorf("%x cut to %d: %+v %v", b, cut, got, ok)
			}
		}
		for _, more := range []string{"\x00", "\x02", "\x80", "\x02\x02\x00", "\xff\xff", string(b)} {
			if got, ok := impl.GetRec(append(bytes.Clone(b), more...)); ok || !isZeroRec(got) {
				t.Errorf("%x and %x: %+v %v", b, more, got, ok)
			}
		}
	}
}

func TestGetRecOfTurnedBits(t *testing.T) {
	found := 0
	for _, r := range sampleRecs() {
		b := impl.PutRec(r)
		for i := range b {
			for bit := range 8 {
				bad := bytes.Clone(b)
				bad[i] ^= 1 << bit
				if checkRecBytes(t, bad) {
					found++
				}
			}
		}
	}
	if found < 1000 {
		t.Errorf("only %d records among them", found)
	}
}

func TestGetRecOfEveryShortEnd(t *testing.T) {
	found := 0
	var check func(b []byte, left int)
	check = func(b []byte, left int) {
		if checkRecBytes(t, b) {
			found++
		}
		if left == 0 {
			return
		}
		for _, c := range []byte{0, 1, 2, 4, 6, 8, 0x80} {
			check(append(bytes.Clone(b), c), left-1)
		}
	}
	for _, head := range []string{"", "\x12\x06\x08", "\x12\x06\x08\x02\x02", "\x12\x06\x08\x08\x02", "\x12\x00\x00\x0c\x00\x00\x00\x00", "\x12\x00\x00\x0c\x00\x00\x00\x00\x04\x02\x02\x00"} {
		check([]byte(head), 5)
	}
	if found < 40 {
		t.Errorf("only %d records among them", found)
	}
}

func TestGetRecRefuses(t *testing.T) {
	for _, x := range []struct{ why, b string }{
		{"nothing", ""}, {"an Lsn alone", "\x02"}, {"a number without end", "\x80"},
		{"Lsn 0", "\x00\x02\x00\x04\x00\x00\x00\x00\x00"}, {"Lsn one beyond", "\x82\x89\x7a\x02\x00\x04\x00\x00\x00\x00\x00"},
		{"Lsn with a needless group", "\x82\x00\x02\x00\x04\x00\x00\x00\x00\x00"},
		{"Tx 0", "\x02\x00\x00\x04\x00\x00\x00\x00\x00"}, {"Tx one beyond", "\x02\xd2\x0f\x00\x04\x00\x00\x00\x00\x00"},
		{"a Tx of a check", "\x02\x02\x00\x0c\x00\x00\x00\x00\x00"}, {"a Prev of a check", "\x04\x00\x02\x0c\x00\x00\x00\x00\x00"},
		{"Prev of the Lsn", "\x02\x02\x02\x04\x00\x00\x00\x00\x00"}, {"Prev below 0", "\x02\x02\x01\x04\x00\x00\x00\x00\x00"},
		{"kind 0", "\x02\x02\x00\x00\x00\x00\x00\x00\x00"}, {"kind 7", "\x02\x02\x00\x0e\x00\x00\x00\x00\x00"}, {"kind below 0", "\x02\x02\x00\x01\x00\x00\x00\x00\x00"},
		{"Oid 0", "\x02\x02\x00\x02\x00\x00\x00\x00\x00"}, {"Oid 32", "\x02\x02\x00\x02\x40\x00\x00\x00\x00"}, {"an Oid of a commit", "\x02\x02\x00\x04\x02\x00\x00\x00\x00"},
		{"a Next of a set", "\x04\x02\x00\x02\x02\x02\x00\x00\x00"}, {"a Next of an end", "\x04\x02\x00\x0a\x00\x02\x00\x00\x00"},
		{"Next of the Lsn", "\x04\x02\x00\x08\x02\x04\x00\x00\x00"}, {"Next below 0", "\x04\x02\x00\x08\x02\x01\x00\x00\x00"},
		{"a Before of a back", "\x04\x02\x00\x08\x02\x02\x06\x02\x00\x00\x00\x00"}, {"an After of an abort", "\x04\x02\x00\x06\x00\x00\x00\x06\x02\x00\x00\x00"},
		{"a Before that is no object", "\x02\x02\x00\x02\x02\x00\x06\x00\x00\x00\x00\x00"}, {"an After that is no object", "\x02\x02\x00\x02\x02\x00\x00\x02\x02\x00"},
		{"a record that ends where its own bytes, from the first on, would be a slot and no Txs", "\x08\x02\x00\x02\x02\x00"},
		{"an After of a size below 0", "\x02\x02\x00\x02\x02\x00\x00\x01\x00"}, {"an After of a size far out", "\x02\x02\x00\x02\x02\x00\x00\x80\xc0\xa8\xca\x9a\x3a\x00"},
		{"no Txs told", "\x02\x02\x00\x04\x00\x00\x00\x00"}, {"less than no Txs", "\x02\x02\x00\x04\x00\x00\x00\x00\x01"},
		{"Txs of a commit", "\x04\x02\x00\x04\x00\x00\x00\x00\x02\x02\x02\x00"},
		{"more Txs than there are", "\x04\x00\x00\x0c\x00\x00\x00\x00\x04\x02\x02\x00"}, {"far more Txs than there are", "\x04\x00\x00\x0c\x00\x00\x00\x00\x80\xc0\xa8\xca\x9a\x3a\x02\x02\x00"},
		{"fewer Txs than there are", "\x04\x00\x00\x0c\x00\x00\x00\x00\x02\x02\x02\x00\x04\x02\x00"}, {"Txs that end early", "\x04\x00\x00\x0c\x00\x00\x00\x00\x02\x02\x02"},
		{"Aborts 2", "\x04\x00\x00\x0c\x00\x00\x00\x00\x02\x02\x02\x04"}, {"Aborts -1", "\x04\x00\x00\x0c\x00\x00\x00\x00\x02\x02\x02\x01"},
		{"Aborts of MaxInt", "\x04\x00\x00\x0c\x00\x00\x00\x00\x02\x02\x02\x80\xc0\xa8\xca\x9a\x3a"}, {"Aborts with a needless group", "\x04\x00\x00\x0c\x00\x00\x00\x00\x02\x02\x02\x82\x00"},
		{"Last 0", "\x04\x00\x00\x0c\x00\x00\x00\x00\x02\x02\x00\x00"}, {"Last of the Lsn", "\x04\x00\x00\x0c\x00\x00\x00\x00\x02\x02\x04\x00"},
		{"two alike", "\x04\x00\x00\x0c\x00\x00\x00\x00\x04\x02\x02\x00\x02\x02\x00"}, {"not ascending", "\x04\x00\x00\x0c\x00\x00\x00\x00\x04\x04\x02\x00\x02\x02\x00"},
		{"a frame of one", "\x12\x02\x02\x00\x04\x00\x00\x00\x00\x00\x00\x00\x00\x00"},
	} {
		if got, ok := impl.GetRec([]byte(x.b)); ok || !isZeroRec(got) {
			t.Errorf("%s: %+v %v", x.why, got, ok)
		}
		checkRecBytes(t, []byte(x.b))
	}
}

// changingRecs are records that change an object: those that Redo does.
func changingRecs() []impl.Rec {
	return slices.DeleteFunc(sampleRecs(), func(r impl.Rec) bool { return r.Kind != impl.RecSet && r.Kind != impl.RecBack })
}

func TestRecordsAreDoneOnce(t *testing.T) {
	full := fullSlots()
	for i, r := range changingRecs() {
		for _, lsn := range []int{0, r.Lsn - 2, r.Lsn - 1, r.Lsn, r.Lsn + 1, impl.MaxLsn} {
			if lsn < 0 || lsn > impl.MaxLsn {
				continue
			}
			p := impl.Page{Lsn: lsn}
			for slot := range p.Slots {
				p.Slots[slot] = full[(i+slot)%len(full)]
			}
			want := p
			if lsn < r.Lsn {
				want.Lsn, want.Slots[r.Oid%4] = r.Lsn, r.After
			}
			got, ok := impl.Redo(p, r)
			if ok != (lsn < r.Lsn) || !samePage(got, want) {
				t.Fatalf("Redo of %+v and %+v: %+v %v, want %+v", p, r, got, ok, want)
			}
			if again, ok := impl.Redo(got, r); ok || !samePage(again, want) {
				t.Fatalf("Redo of %+v and %+v, again: %+v %v", p, r, again, ok)
			}
		}
	}
}

func TestRedoDoesNotAskWhosePageItIs(t *testing.T) {
	s := slotOf(3, []int{1}, nil)
	for oid := 1; oid <= impl.MaxOid; oid++ {
		got, ok := impl.Redo(impl.Page{}, impl.Rec{Lsn: 1, Tx: 1, Kind: impl.RecSet, Oid: oid, After: s})
		want := impl.Page{Lsn: 1}
		want.Slots[oid%4] = s
		if !ok || !samePage(got, want) {
			t.Errorf("Oid %d: %+v %v", oid, got, ok)
		}
	}
}

// checkNotDone asks for p as it was beside false.
func checkNotDone(t *testing.T, p impl.Page, r impl.Rec) {
	t.Helper()
	if got, ok := impl.Redo(p, r); ok || !samePage(got, p) {
		t.Errorf("Redo of %+v and %+v: %+v %v", p, r, got, ok)
	}
}

func TestRedoRefuses(t *testing.T) {
	held := impl.Page{Lsn: 5}
	for slot := range held.Slots {
		held.Slots[slot] = fullSlots()[slot]
	}
	for _, r := range wrongRecs() {
		checkNotDone(t, impl.Page{}, r)
		checkNotDone(t, held, r)
	}
	for _, r := range sampleRecs() {
		if r.Kind != impl.RecSet && r.Kind != impl.RecBack {
			checkNotDone(t, impl.Page{}, r)
			checkNotDone(t, held, r)
		}
	}
	for _, p := range wrongPages() {
		for oid := 4; oid < 8; oid++ {
			// A record that would put a right slot in place of the wrong one is not done, either.
			checkNotDone(t, p, impl.Rec{Lsn: 9, Tx: 1, Kind: impl.RecSet, Oid: oid, After: slotOf(2, nil, nil)})
			checkNotDone(t, p, impl.Rec{Lsn: impl.MaxLsn, Tx: 1, Kind: impl.RecBack, Oid: oid})
			checkNotDone(t, p, impl.Rec{Lsn: 9, Tx: 1, Kind: impl.RecCommit})
			checkNotDone(t, p, impl.Rec{})
		}
	}
}

func TestUndoOf(t *testing.T) {
	for _, r := range sampleRecs() {
		for _, lsn := range []int{1, r.Prev, r.Prev + 1, r.Lsn, r.Lsn + 1, impl.MaxLsn, impl.MaxLsn + 1, 0, -1, math.MaxInt64, math.MinInt64} {
			for _, prev := range []int{0, 1, r.Lsn, lsn - 1, lsn, lsn + 1, -1, math.MaxInt64, math.MinInt64} {
				var want impl.Rec
				right := lsn >= 1 && lsn <= 1000000 && prev >= 0 && prev < lsn && r.Prev < lsn
				if r.Kind == impl.RecSet && right {
					want = impl.Rec{Lsn: lsn, Tx: r.Tx, Prev: prev, Kind: impl.RecBack, Oid: r.Oid, After: r.Before, Next: r.Prev}
				}
				got := impl.UndoOf(r, lsn, prev)
				if !sameRecs(got, want) {
					t.Fatalf("UndoOf %+v, %d, %d: %+v, want %+v", r, lsn, prev, got, want)
				}
				if !isZeroRec(got) && !impl.RecOk(got) {
					t.Fatalf("UndoOf %+v, %d, %d is not right: %+v", r, lsn, prev, got)
				}
			}
		}
	}
	for _, r := range wrongRecs() {
		if got := impl.UndoOf(r, impl.MaxLsn, 9); !isZeroRec(got) {
			t.Errorf("UndoOf %+v: %+v", r, got)
		}
	}
}

func TestUndoneTheSlotIsAsBefore(t *testing.T) {
	slots := sampleSlots()
	for i, before := range slots {
		for j, after := range slots {
			for oid := 4; oid < 8; oid++ {
				p := impl.Page{Lsn: 5}
				for slot := range p.Slots {
					p.Slots[slot] = slots[(i+j+slot)%len(slots)]
				}
				p.Slots[oid-4] = before
				set := impl.Rec{Lsn: 7, Tx: 2, Prev: 3, Kind: impl.RecSet, Oid: oid, Before: before, After: after}
				done, ok := impl.Redo(p, set)
				undone, undoneOk := impl.Redo(done, impl.UndoOf(set, 9, 8))
				want := p
				want.Lsn = 9
				if !ok || !undoneOk || !sameSlot(done.Slots[oid-4], after) || !samePage(undone, want) {
					t.Fatalf("Oid %d, %+v and %+v: %+v, %+v", oid, before, after, done, undone)
				}
				if again, ok := impl.Redo(undone, set); ok || !samePage(again, want) {
					t.Fatalf("what is undone is not done again: %+v %v", again, ok)
				}
			}
		}
	}
}

func TestRecordArgumentsAreLeft(t *testing.T) {
	before, beforeRooms := spareSlot()
	after, afterRooms := spareSlot()
	inside, insideRooms := spareSlot()
	p := impl.Page{Lsn: 5}
	p.Slots[0], p.Slots[2] = inside, inside
	for _, lsn := range []int{0, 5, 9} {
		r := impl.Rec{Lsn: lsn, Tx: 3, Prev: 4, Kind: impl.RecSet, Oid: 6, Before: before, After: after}
		impl.RecOk(r)
		impl.PutRec(r)
		got, _ := impl.Redo(p, r)
		back := impl.UndoOf(r, 12, 11)
		for _, list := range append(listsOf(got), back.Before.O.Ints, back.Before.O.Refs, back.After.O.Ints, back.After.O.Refs) {
			scribble(list)
		}
		if !roomsKept(beforeRooms) || !roomsKept(afterRooms) || !roomsKept(insideRooms) {
			t.Fatalf("Lsn %d: an argument was written into, or is shared: %v %v %v", lsn, beforeRooms, afterRooms, insideRooms)
		}
	}
	room := livesOf(6, 4)
	impl.PutRec(impl.Rec{Lsn: 9, Kind: impl.RecCheck, Txs: room[:2]})
	impl.RecOk(impl.Rec{Lsn: 9, Kind: impl.RecCheck, Txs: room[:2]})
	if !slices.Equal(room, livesOf(6, 4)) {
		t.Errorf("a list of transactions was written into: %v", room)
	}
}

func TestRecordAnswersShareNothing(t *testing.T) {
	list := []int{1, 2, 3}
	s := slotOf(7, list, list)
	p := impl.Page{Lsn: 5, Slots: [4]impl.Slot{s, s, s, s}}
	r := impl.Rec{Lsn: 9, Tx: 3, Prev: 4, Kind: impl.RecSet, Oid: 6, Before: s, After: s}
	old := r
	old.Lsn = 5
	for _, x := range []impl.Rec{r, old, {}} {
		checkOwnLists(t, func() impl.Page { got, _ := impl.Redo(p, x); return got })
	}
	// The two slots of a record stand in a page, so that their lists are looked at as a page's are.
	pageOf := func(r impl.Rec) impl.Page { return impl.Page{Slots: [4]impl.Slot{r.Before, r.After}} }
	checkOwnLists(t, func() impl.Page { return pageOf(impl.UndoOf(r, 12, 11)) })
	checkOwnLists(t, func() impl.Page { got, _ := impl.GetRec(impl.PutRec(r)); return pageOf(got) })
	if !slices.Equal(list, []int{1, 2, 3}) {
		t.Errorf("an answer shares memory with an argument: %v", list)
	}
}

func TestReadingARecordLeavesItsArgument(t *testing.T) {
	for _, kind := range recKinds {
		r := plainRecOf(kind)
		whole := string(impl.PutRec(r))
		b, room := spare(whole)
		got, ok := impl.GetRec(b)
		if !ok || !roomKept(room, whole) {
			t.Errorf("GetRec wrote into its argument: %v %x", ok, room)
		}
		clear(room)
		if !sameRecs(got, r) {
			t.Errorf("the answer changed with the argument: %+v", got)
		}
	}
}

func TestRecordCallsKeepNothing(t *testing.T) {
	for _, kind := range recKinds {
		r := plainRecOf(kind)
		first := impl.PutRec(r)
		for _, w := range wrongRecs() {
			impl.PutRec(w)
			impl.GetRec(plainRecBytes(w))
			impl.Redo(impl.Page{}, w)
			impl.UndoOf(w, 12, 11)
		}
		if !bytes.Equal(impl.PutRec(r), first) {
			t.Error("what was refused left something behind")
		}
		clear(first)
		got, _ := impl.GetRec(impl.PutRec(r))
		clear(got.Txs)
		if got, ok := impl.GetRec(impl.PutRec(r)); !ok || !sameRecs(got, r) {
			t.Errorf("an answer is kept: %+v %v", got, ok)
		}
	}
}
