package tests

import (
	"bytes"
	"math"
	"slices"
	"testing"

	"loop.example/g00181/impl"
)

// logRec is a record of every kind by turns, with lists of all lengths, that is right at this place of a log.
func logRec(place int) impl.Rec {
	slots := sampleSlots()
	r := plainRecOf(recKinds[place%len(recKinds)])
	r.Lsn = place + 1
	switch r.Kind {
	case impl.RecCheck:
		r.Txs = livesOf(place%21, place)
		return r
	case impl.RecSet:
		r.Before, r.After = slots[place%len(slots)], slots[(place+1)%len(slots)]
	case impl.RecBack:
		r.After, r.Next = slots[place%len(slots)], place/3
	}
	r.Tx, r.Prev = place%4+1, place/2
	return r
}

func logOf(count int, sure int) impl.Log {
	l := impl.Log{Sure: sure}
	for place := range count {
		l.Recs = append(l.Recs, logRec(place))
	}
	return l
}

// sampleLogs are of every length that a chapter names, with Sure at its edges and between.
func sampleLogs() []impl.Log {
	var out []impl.Log
	for _, count := range []int{0, 1, 2, 6, 7, 40, impl.MaxRecs - 1, impl.MaxRecs} {
		for _, sure := range []int{0, 1, count / 2, count - 1, count} {
			if sure >= 0 && sure <= count {
				out = append(out, logOf(count, sure))
			}
		}
	}
	return out
}

// wrongLogs have one thing each that is not right.
func wrongLogs() []impl.Log {
	out := []impl.Log{logOf(impl.MaxRecs+1, 0), logOf(impl.MaxRecs+1, impl.MaxRecs), logOf(impl.MaxRecs+1, impl.MaxRecs+1)}
	for _, count := range []int{0, 1, 7} {
		for _, sure := range []int{-1, -2, count + 1, count + 2, impl.MaxRecs, impl.MaxRecs + 1, math.MaxInt64, math.MinInt64} {
			out = append(out, logOf(count, sure))
		}
	}
	for place := range 7 {
		for _, lsn := range []int{place, place + 2, place + 3, 0, -1, impl.MaxLsn, impl.MaxLsn + 1, math.MaxInt64, math.MinInt64} {
			l := logOf(7, 3)
			l.Recs[place].Lsn = lsn
			out = append(out, l)
		}
		l := logOf(7, 3)
		l.Recs = slices.Delete(l.Recs, 6-place, 7-place)
		if place > 0 {
			out = append(out, l)
		}
		l = logOf(7, 3)
		l.Recs = slices.Insert(l.Recs, place, l.Recs[place])
		out = append(out, l)
	}
	for _, r := range wrongRecs() {
		// The record stands where its Lsn is the next one, so that nothing else is wrong, where it has one that may be so.
		l := logOf(9, 4)
		place := min(max(r.Lsn-1, 0), 8)
		l.Recs[place] = r
		out = append(out, l)
	}
	return out
}

func sameLogs(a impl.Log, b impl.Log) bool {
	return a.Sure == b.Sure && slices.EqualFunc(a.Recs, b.Recs, sameRecs)
}

func plainLogOk(l impl.Log) bool {
	ok := len(l.Recs) <= 4000 && l.Sure >= 0 && l.Sure <= len(l.Recs)
	for i, r := range l.Recs {
		ok = ok && r.Lsn-i == 1 && plainRecOk(r)
	}
	return ok
}

// plainFrames are the frames of a log's records, right or not.
func plainFrames(l impl.Log) [][]byte {
	var out [][]byte
	for _, r := range l.Recs {
		out = append(out, plainFrame(plainRecBytes(r)))
	}
	return out
}

func plainLogBytes(l impl.Log) []byte { return bytes.Join(plainFrames(l), nil) }

// plainUnframe is the body at b's beginning and the size of its frame; false, where there is none.
func plainUnframe(b []byte) ([]byte, int, bool) {
	size, ahead, ok := plainInt(b)
	if !ok || size < 0 || size > len(b)-ahead-4 {
		return nil, 0, false
	}
	body := b[ahead : ahead+size]
	return body, ahead + size + 4, bytes.HasPrefix(b, plainFrame(body))
}

// plainReadLog is the reading that ReadLog is held against.
func plainReadLog(b []byte) (impl.Log, int) {
	var l impl.Log
	at := 0
	for len(l.Recs) < 4000 {
		body, size, ok := plainUnframe(b[at:])
		if !ok {
			break
		}
		r, ok := plainRec(body)
		if !ok || r.Lsn != len(l.Recs)+1 {
			break
		}
		l.Recs = append(l.Recs, r)
		at += size
	}
	l.Sure = len(l.Recs)
	return l, at
}

func checkReadLog(t *testing.T, b []byte) int {
	t.Helper()
	got, at := impl.ReadLog(b)
	want, wantAt := plainReadLog(b)
	if at != wantAt || !sameLogs(got, want) {
		t.Fatalf("ReadLog of %x: %d records, sure %d, at %d, want %d records at %d", b, len(got.Recs), got.Sure, at, len(want.Recs), wantAt)
	}
	return len(got.Recs)
}

func TestLogConstants(t *testing.T) {
	if impl.MaxRecs != 4000 {
		t.Errorf("MaxRecs %d", impl.MaxRecs)
	}
}

func TestLogOk(t *testing.T) {
	for _, l := range sampleLogs() {
		if !impl.LogOk(l) || !plainLogOk(l) {
			t.Errorf("%d records, sure %d: is one", len(l.Recs), l.Sure)
		}
	}
	for i, l := range wrongLogs() {
		if impl.LogOk(l) || plainLogOk(l) {
			t.Errorf("wrong log %d (%d records, sure %d) is none: %+v", i, len(l.Recs), l.Sure, l.Recs[:min(9, len(l.Recs))])
		}
	}
	if !impl.LogOk(impl.Log{}) || !impl.LogOk(impl.Log{Recs: []impl.Rec{}}) {
		t.Error("a log with no records is one")
	}
}

func TestLogOkAtTheEdges(t *testing.T) {
	for count := range 9 {
		for sure := -3; sure <= count+3; sure++ {
			if got := impl.LogOk(logOf(count, sure)); got != (sure >= 0 && sure <= count) {
				t.Errorf("%d records, sure %d: %v", count, sure, got)
			}
		}
	}
	for first := -2; first <= 4; first++ {
		for second := -2; second <= 5; second++ {
			l := impl.Log{Recs: []impl.Rec{{Lsn: first, Tx: 1, Kind: impl.RecCommit}, {Lsn: second, Tx: 1, Kind: impl.RecEnd}}}
			if got := impl.LogOk(l); got != (first == 1 && second == 2) {
				t.Errorf("Lsns %d, %d: %v", first, second, got)
			}
		}
	}
	for count := impl.MaxRecs - 2; count <= impl.MaxRecs+2; count++ {
		if got := impl.LogOk(logOf(count, 0)); got != (count <= 4000) {
			t.Errorf("%d records: %v", count, got)
		}
	}
}

func TestAppend(t *testing.T) {
	for _, l := range sampleLogs() {
		count := len(l.Recs)
		if count == impl.MaxRecs {
			continue
		}
		for _, kind := range recKinds {
			r := plainRecOf(kind)
			r.Prev, r.Next, r.Txs = 0, 0, nil
			for _, lsn := range []int{0, count + 1, count, -1, 77, math.MaxInt64, math.MinInt64} {
				r.Lsn = lsn
				got, at := impl.Append(l, r)
				want := impl.Log{Recs: slices.Clone(l.Recs), Sure: l.Sure}
				want.Recs = append(want.Recs, r)
				want.Recs[count].Lsn = count + 1
				if at != count+1 || !sameLogs(got, want) || !impl.LogOk(got) {
					t.Fatalf("%d records, sure %d, and %+v: %d, %d records, sure %d", count, l.Sure, r, at, len(got.Recs), got.Sure)
				}
			}
		}
	}
}

func TestAppendOneBehindTheOther(t *testing.T) {
	var l impl.Log
	for place := range 60 {
		r := logRec(place)
		r.Lsn = 0
		next, at := impl.Append(l, r)
		want := logOf(place+1, l.Sure)
		if at != place+1 || !sameLogs(next, want) {
			t.Fatalf("record %d: %d, %+v", place, at, next)
		}
		l = next
		if place%7 == 3 {
			l = impl.Force(l, place)
		}
	}
}

func TestAppendAsksWithTheNextLsn(t *testing.T) {
	for count := range 8 {
		l := logOf(count, count/2)
		for n := -2; n <= count+3; n++ {
			for _, x := range []struct {
				r     impl.Rec
				right bool
			}{
				{impl.Rec{Lsn: 50, Tx: 1, Prev: n, Kind: impl.RecEnd}, n >= 0 && n <= count},
				{impl.Rec{Tx: 1, Prev: n, Kind: impl.RecEnd}, n >= 0 && n <= count},
				{impl.Rec{Lsn: 50, Tx: 1, Kind: impl.RecBack, Oid: 1, Next: n}, n >= 0 && n <= count},
				{impl.Rec{Lsn: 50, Kind: impl.RecCheck, Txs: []impl.Live{{Tx: 1, Last: n}}}, n >= 1 && n <= count},
			} {
				got, at := impl.Append(l, x.r)
				if x.right && (at != count+1 || len(got.Recs) != count+1) || !x.right && (at != 0 || !sameLogs(got, l)) {
					t.Errorf("%d records and %+v: %d, %d records", count, x.r, at, len(got.Recs))
				}
			}
		}
	}
}

func TestAppendRefuses(t *testing.T) {
	good := impl.Rec{Tx: 1, Kind: impl.RecCommit}
	check := func(l impl.Log, r impl.Rec) {
		t.Helper()
		if got, at := impl.Append(l, r); at != 0 || !sameLogs(got, l) {
			t.Errorf("%d records, sure %d, and %+v: %d, %d records, sure %d", len(l.Recs), l.Sure, r, at, len(got.Recs), got.Sure)
		}
	}
	for _, l := range wrongLogs() {
		check(l, good)
	}
	check(logOf(impl.MaxRecs, 0), good)
	check(logOf(impl.MaxRecs, impl.MaxRecs), good)
	check(logOf(impl.MaxRecs, 17), impl.Rec{})
	for _, r := range wrongRecs() {
		r.Lsn = 10
		if plainRecOk(r) {
			continue
		}
		check(logOf(9, 4), r)
	}
	full, at := impl.Append(logOf(impl.MaxRecs-1, 5), good)
	if at != impl.MaxRecs || !impl.LogOk(full) || full.Sure != 5 {
		t.Errorf("the last that there is room for: %d, sure %d", at, full.Sure)
	}
	check(full, good)
}

func TestForce(t *testing.T) {
	for _, l := range sampleLogs() {
		count := len(l.Recs)
		for _, lsn := range []int{0, 1, 2, 3, l.Sure - 1, l.Sure, l.Sure + 1, count - 1, count, count + 1, impl.MaxRecs + 1, -1, -2, math.MaxInt64, math.MinInt64} {
			want := impl.Log{Recs: l.Recs, Sure: l.Sure}
			if lsn > want.Sure {
				want.Sure = lsn
			}
			if want.Sure > count {
				want.Sure = count
			}
			got := impl.Force(l, lsn)
			if !sameLogs(got, want) || !impl.LogOk(got) {
				t.Errorf("%d records, sure %d, up to %d: sure %d, want %d", count, l.Sure, lsn, got.Sure, want.Sure)
			}
		}
	}
	for _, l := range wrongLogs() {
		for _, lsn := range []int{0, 1, 5, 9, impl.MaxRecs, -1, math.MaxInt64, math.MinInt64} {
			if got := impl.Force(l, lsn); !sameLogs(got, l) {
				t.Errorf("of what is no log, sure %d, up to %d: sure %d", l.Sure, lsn, got.Sure)
			}
		}
	}
}

func TestTear(t *testing.T) {
	for _, l := range sampleLogs() {
		count := len(l.Recs)
		for _, keep := range []int{0, 1, 2, 3, count - l.Sure - 1, count - l.Sure, count - l.Sure + 1, count, impl.MaxRecs, math.MaxInt64, math.MaxInt64 - l.Sure} {
			if keep < 0 {
				continue
			}
			left := count
			if keep < count-l.Sure {
				left = l.Sure + keep
			}
			got := impl.Tear(l, keep)
			if !sameLogs(got, impl.Log{Recs: l.Recs[:left], Sure: left}) || !impl.LogOk(got) {
				t.Errorf("%d records, sure %d, and %d more: %d records, sure %d, want %d", count, l.Sure, keep, len(got.Recs), got.Sure, left)
			}
		}
		for _, keep := range []int{-1, -2, -count, -l.Sure - 1, math.MinInt64} {
			if keep >= 0 {
				continue
			}
			if got := impl.Tear(l, keep); !sameLogs(got, l) {
				t.Errorf("%d records, sure %d, and %d more: %d records, sure %d", count, l.Sure, keep, len(got.Recs), got.Sure)
			}
		}
	}
	for _, l := range wrongLogs() {
		for _, keep := range []int{0, 1, 2, 9, impl.MaxRecs, -1, math.MaxInt64, math.MinInt64} {
			if got := impl.Tear(l, keep); !sameLogs(got, l) {
				t.Errorf("of what is no log, sure %d, and %d more: %d records, sure %d", l.Sure, keep, len(got.Recs), got.Sure)
			}
		}
	}
}

func TestWhatWasSureOutlivesACrash(t *testing.T) {
	for count := range 20 {
		for sure := range count + 1 {
			l := logOf(count, 0)
			l = impl.Force(l, sure)
			for keep := range count + 2 {
				torn := impl.Tear(l, keep)
				left := torn.Recs
				if len(left) < sure || len(left) > count || torn.Sure != len(left) || !slices.EqualFunc(left, l.Recs[:len(left)], sameRecs) {
					t.Fatalf("%d records, sure %d, and %d more: %d, sure %d", count, sure, keep, len(left), torn.Sure)
				}
				if again := impl.Tear(torn, 0); !sameLogs(again, torn) {
					t.Fatalf("torn again: %d, sure %d", len(again.Recs), again.Sure)
				}
			}
		}
	}
}

func TestLogBytesForms(t *testing.T) {
	l := impl.Log{Sure: 1, Recs: []impl.Rec{
		{Lsn: 1, Tx: 1, Kind: impl.RecCommit}, {Lsn: 2, Kind: impl.RecCheck, Txs: []impl.Live{{Tx: 1, Last: 1, Aborts: true}}},
	}}
	first, second := "\x02\x02\x00\x04\x00\x00\x00\x00\x00", "\x04\x00\x00\x0c\x00\x00\x00\x00\x02\x02\x02\x02"
	want := string(plainFrame([]byte(first))) + string(plainFrame([]byte(second)))
	if got := impl.LogBytes(l); string(got) != want || len(want) != 14+17 {
		t.Errorf("LogBytes: %x, want %x", got, want)
	}
	got, at := impl.ReadLog([]byte(want))
	l.Sure = 2
	if at != 31 || !sameLogs(got, l) {
		t.Errorf("ReadLog: %+v, %d", got, at)
	}
}

func TestLogsComeBackOfTheirBytes(t *testing.T) {
	for _, l := range sampleLogs() {
		b := impl.LogBytes(l)
		if !bytes.Equal(b, plainLogBytes(l)) {
			t.Errorf("LogBytes of %d records, sure %d", len(l.Recs), l.Sure)
		}
		got, at := impl.ReadLog(b)
		if at != len(b) || !sameLogs(got, impl.Log{Recs: l.Recs, Sure: len(l.Recs)}) {
			t.Errorf("ReadLog of %d records: %d, sure %d, at %d of %d", len(l.Recs), len(got.Recs), got.Sure, at, len(b))
		}
	}
}

func TestNothingOfWhatIsNoLog(t *testing.T) {
	for _, l := range wrongLogs() {
		if b := impl.LogBytes(l); len(b) != 0 {
			t.Errorf("LogBytes of what is no log, %d records, sure %d: %x", len(l.Recs), l.Sure, b[:9])
		}
		checkReadLog(t, plainLogBytes(l))
	}
}

func TestABeginningTellsTheRecordsThatAreThereWhole(t *testing.T) {
	l := logOf(30, 11)
	frames := plainFrames(l)
	b := impl.LogBytes(l)
	for cut := range len(b) + 1 {
		whole, end := 0, 0
		for whole < len(frames) && end+len(frames[whole]) <= cut {
			end += len(frames[whole])
			whole++
		}
		// The list keeps its spare room: what lies there is not to be read.
		got, at := impl.ReadLog(b[:cut])
		if at != end || !sameLogs(got, impl.Log{Recs: l.Recs[:whole], Sure: whole}) {
			t.Fatalf("cut to %d: %d records, sure %d, at %d, want %d at %d", cut, len(got.Recs), got.Sure, at, whole, end)
		}
	}
}

// noFrames are bytes that no frame of the record with this Lsn begins with.
func noFrames(lsn int) []struct {
	why string
	b   []byte
} {
	r := logRec(lsn - 1)
	other := func(change func(r *impl.Rec)) []byte {
		r := logRec(lsn - 1)
		change(&r)
		return plainFrame(plainRecBytes(r))
	}
	whole := plainFrame(plainRecBytes(r))
	sum, body := bytes.Clone(whole), bytes.Clone(whole)
	sum[len(sum)-1] ^= 1
	body[len(body)-5] ^= 1
	return []struct {
		why string
		b   []byte
	}{
		{"nothing", nil}, {"the size of a body alone", whole[:1]}, {"half a frame", whole[:len(whole)/2]},
		{"all but one of a frame's bytes", whole[:len(whole)-1]}, {"a frame without its sum", whole[:len(whole)-4]},
		{"another sum", sum}, {"another body", body}, {"a size below 0", append([]byte{1}, whole...)}, {"a size of no end", append(bytes.Repeat([]byte{0x80}, 12), whole...)},
		{"a size with a needless group", append([]byte{0x80, 0x00}, whole...)}, {"a size beyond what is there", append([]byte{0xfe, 0x0f}, whole...)},
		{"the frame of an empty body", plainFrame(nil)}, {"the frame of no record", plainFrame([]byte("none"))}, {"the frame of a frame", plainFrame(whole)},
		{"the frame of a record and more", plainFrame(append(plainRecBytes(r), 0))}, {"the frame of a record that is cut", plainFrame(plainRecBytes(r)[:8])},
		{"a record without its frame", plainRecBytes(r)}, {"a page", impl.PutPage(impl.Page{Lsn: lsn})},
		{"a record that is not right", other(func(r *impl.Rec) { r.Kind = 7 })}, {"a record with a Prev that is not ahead", other(func(r *impl.Rec) { r.Prev = r.Lsn })},
		{"a record with the Lsn ahead", other(func(r *impl.Rec) { *r = impl.Rec{Lsn: lsn - 1, Tx: 1, Kind: impl.RecEnd} })},
		{"a record with the Lsn behind the next", other(func(r *impl.Rec) { *r = impl.Rec{Lsn: lsn + 1, Tx: 1, Kind: impl.RecEnd} })},
		{"a record with the first Lsn again, or no Lsn", other(func(r *impl.Rec) { *r = impl.Rec{Lsn: min(1, lsn-1), Tx: 1, Kind: impl.RecEnd} })},
		{"a record with the last Lsn of all", other(func(r *impl.Rec) { *r = impl.Rec{Lsn: impl.MaxLsn, Tx: 1, Kind: impl.RecEnd} })},
	}
}

func TestReadLogEndsAtTheFirstThatIsNone(t *testing.T) {
	for count := range 9 {
		l := logOf(count, count)
		ahead := plainLogBytes(l)
		behind := plainLogBytes(impl.Log{Recs: logOf(20, 0).Recs[count:]})
		for _, x := range noFrames(count + 1) {
			b := append(bytes.Clone(ahead), x.b...)
			if got, at := impl.ReadLog(b); at != len(ahead) || !sameLogs(got, l) {
				t.Errorf("%s behind %d: %d records, sure %d, at %d, want %d", x.why, count, len(got.Recs), got.Sure, at, len(ahead))
			}
			if bytes.HasPrefix(plainFrame(plainRecBytes(logRec(count))), x.b) {
				// What follows could be what it lacks.
				continue
			}
			// What would be right follows, but nothing behind the first that is none is told.
			if got, at := impl.ReadLog(append(b, behind...)); at != len(ahead) || !sameLogs(got, l) {
				t.Errorf("%s behind %d, and more: %d records, sure %d, at %d, want %d", x.why, count, len(got.Recs), got.Sure, at, len(ahead))
			}
		}
	}
}

func TestReadLogBeyondTheMost(t *testing.T) {
	for _, count := range []int{impl.MaxRecs - 1, impl.MaxRecs, impl.MaxRecs + 1, impl.MaxRecs + 9} {
		l := logOf(count, 0)
		told := min(count, 4000)
		end := len(plainLogBytes(impl.Log{Recs: l.Recs[:told]}))
		got, at := impl.ReadLog(plainLogBytes(l))
		if at != end || !sameLogs(got, impl.Log{Recs: l.Recs[:told], Sure: told}) {
			t.Errorf("%d records: %d, sure %d, at %d, want %d", count, len(got.Recs), got.Sure, at, end)
		}
	}
}

func TestReadLogOfTurnedBits(t *testing.T) {
	l := logOf(14, 5)
	b := impl.LogBytes(l)
	frame, end := 0, 0
	frames := plainFrames(l)
	for i := range b {
		if i == end+len(frames[frame]) {
			end = i
			frame++
		}
		for bit := range 8 {
			bad := bytes.Clone(b)
			bad[i] ^= 1 << bit
			got, at := impl.ReadLog(bad)
			if at != end || !sameLogs(got, impl.Log{Recs: l.Recs[:frame], Sure: frame}) {
				t.Fatalf("bit %d of byte %d: %d records, at %d, want %d at %d", bit, i, len(got.Recs), at, frame, end)
			}
		}
	}
}

// TestReadLogOfFramesInAnyOrder goes through every choice of five frames of a few records, so that each is the next one, or is not.
func TestReadLogOfFramesInAnyOrder(t *testing.T) {
	frames := append(plainFrames(logOf(5, 0)), nil, plainFrame(nil), []byte{0xff})
	found := map[int]int{}
	for choice := range 8 * 8 * 8 * 8 * 8 {
		var b []byte
		for at := choice; at > 0; at /= 8 {
			b = append(b, frames[at%8]...)
		}
		found[checkReadLog(t, b)]++
	}
	for count := range 6 {
		if found[count] == 0 {
			t.Errorf("none with %d records among them", count)
		}
	}
}

func TestReadLogOfEveryShortList(t *testing.T) {
	var check func(b []byte, left int)
	check = func(b []byte, left int) {
		if got, at := impl.ReadLog(b); at != 0 || !sameLogs(got, impl.Log{}) {
			t.Fatalf("%x: %+v %d", b, got, at)
		}
		if left == 0 {
			return
		}
		for _, c := range []byte{0, 1, 2, 0x80, 0xff} {
			check(append(bytes.Clone(b), c), left-1)
		}
	}
	check(nil, 6)
}

func TestChain(t *testing.T) {
	rec := func(tx int, kind int) impl.Rec { return impl.Rec{Tx: tx, Kind: kind} }
	set := impl.Rec{Tx: 1, Kind: impl.RecSet, Oid: 1}
	var l impl.Log
	for _, r := range []impl.Rec{set, rec(2, impl.RecAbort), {Kind: impl.RecCheck}, rec(1, impl.RecCommit), rec(impl.MaxTx, impl.RecCommit), {Tx: 2, Kind: impl.RecBack, Oid: 3}, rec(1, impl.RecEnd), rec(2, impl.RecEnd), {Kind: impl.RecCheck}} {
		l, _ = impl.Append(l, r)
	}
	for tx, want := range map[int][]int{
		1: {7, 4, 1}, 2: {8, 6, 2}, impl.MaxTx: {5},
		3: nil, 0: nil, -1: nil, impl.MaxTx - 1: nil, impl.MaxTx + 1: nil, math.MaxInt64: nil, math.MinInt64: nil,
	} {
		if got := impl.Chain(l, tx); !slices.Equal(got, want) {
			t.Errorf("Chain of %d: %v, want %v", tx, got, want)
		}
		if got := impl.Chain(impl.Log{}, tx); len(got) != 0 {
			t.Errorf("Chain of %d in no records: %v", tx, got)
		}
	}
}

func TestChainOfEveryTransaction(t *testing.T) {
	logs := append(sampleLogs(), logOf(100, 30))
	for _, l := range logs {
		told := 0
		for tx := 1; tx <= 6; tx++ {
			var want []int
			for i := len(l.Recs); i > 0; i-- {
				if l.Recs[i-1].Tx == tx {
					want = append(want, i)
				}
			}
			if got := impl.Chain(l, tx); !slices.Equal(got, want) {
				t.Errorf("%d records, Tx %d: %v, want %v", len(l.Recs), tx, got, want)
			}
			told += len(want)
		}
		// Every record is of one transaction, but for the checks: they are of none.
		if checks := len(l.Recs) / 6; told != len(l.Recs)-checks {
			t.Errorf("%d records, %d checks: %d told", len(l.Recs), checks, told)
		}
	}
}

func TestChainGoesByTheRecordsNotByPrev(t *testing.T) {
	l := impl.Log{Recs: []impl.Rec{{Lsn: 1, Tx: 4, Kind: impl.RecAbort}, {Lsn: 2, Tx: 5, Kind: impl.RecAbort}, {Lsn: 3, Tx: 4, Kind: impl.RecEnd}, {Lsn: 4, Tx: 5, Prev: 1, Kind: impl.RecEnd}}}
	if got := impl.Chain(l, 4); !slices.Equal(got, []int{3, 1}) {
		t.Errorf("a Prev that tells of none: %v", got)
	}
	if got := impl.Chain(l, 5); !slices.Equal(got, []int{4, 2}) {
		t.Errorf("a Prev that tells of another's: %v", got)
	}
}

// chainTxs are transactions' numbers that are right, those next to them, and the ends of all numbers.
var chainTxs = []int{1, 2, 3, 4, impl.MaxTx, 0, -1, impl.MaxTx + 1, math.MaxInt64, math.MinInt64}

// The chapter names no answer of its own for a log that is none, nor for any tx, so what stands there is told.
func TestChainOfWhatIsNoLog(t *testing.T) {
	for _, l := range wrongLogs() {
		for _, tx := range chainTxs {
			var want []int
			for _, r := range l.Recs {
				if r.Tx == tx && r.Kind != impl.RecCheck {
					want = append([]int{r.Lsn}, want...)
				}
			}
			if got := impl.Chain(l, tx); !slices.Equal(got, want) {
				t.Errorf("%d records, sure %d, Tx %d: %v, want %v", len(l.Recs), l.Sure, tx, got, want)
			}
		}
	}
}

// A RecCheck has no Tx: what stands in that field makes it no transaction's record.
func TestChainPassesOverChecks(t *testing.T) {
	for _, tx := range chainTxs {
		check := impl.Rec{Lsn: 1, Tx: tx, Kind: impl.RecCheck}
		if got := impl.Chain(impl.Log{Recs: []impl.Rec{check}}, tx); len(got) != 0 {
			t.Errorf("a check alone, Tx %d: %v", tx, got)
		}
		between := impl.Log{Recs: []impl.Rec{check, {Lsn: 2, Tx: tx, Kind: impl.RecAbort}, {Lsn: 3, Tx: tx, Kind: impl.RecCheck}, {Lsn: 4, Tx: tx, Kind: impl.RecEnd}, {Lsn: 5, Tx: tx, Kind: impl.RecCheck}}}
		if got := impl.Chain(between, tx); !slices.Equal(got, []int{4, 2}) {
			t.Errorf("checks about the records, Tx %d: %v", tx, got)
		}
	}
}

// A tx that no record that is right could have is asked for like any other, and so is a kind that is none.
func TestChainOfAnyTxAndKind(t *testing.T) {
	kinds := []int{impl.RecSet, impl.RecCommit, impl.RecAbort, impl.RecBack, impl.RecEnd, 0, -1, impl.RecCheck + 1, math.MaxInt64, math.MinInt64}
	for _, tx := range chainTxs {
		for _, kind := range kinds {
			l := impl.Log{Recs: []impl.Rec{{Lsn: 1, Tx: tx, Kind: kind}}}
			if got := impl.Chain(l, tx); !slices.Equal(got, []int{1}) {
				t.Errorf("one record, Tx %d, kind %d: %v", tx, kind, got)
			}
			l.Recs = append(l.Recs, impl.Rec{Lsn: 2, Tx: 7, Kind: kind}, impl.Rec{Lsn: 3, Tx: tx, Kind: impl.RecEnd})
			if got := impl.Chain(l, tx); !slices.Equal(got, []int{3, 1}) {
				t.Errorf("another's between, Tx %d, kind %d: %v", tx, kind, got)
			}
		}
	}
}

// logRoom is a log whose lists, all of them, have something foreign in the room behind their lengths.
func logRoom() (impl.Log, func() bool) {
	room := make([]impl.Rec, 12)
	var slotRooms [][2][]int
	var liveRooms [][]impl.Live
	for i := range room {
		r := impl.Rec{Lsn: i + 1, Tx: 1, Kind: impl.RecSet, Oid: 3}
		if i%2 == 1 {
			lives := livesOf(6, 1)
			liveRooms = append(liveRooms, lives)
			room[i] = impl.Rec{Lsn: i + 1, Kind: impl.RecCheck, Txs: lives[:2]}
			continue
		}
		var rooms [2][2][]int
		r.Before, rooms[0] = spareSlot()
		r.After, rooms[1] = spareSlot()
		slotRooms = append(slotRooms, rooms[0], rooms[1])
		room[i] = r
	}
	was := slices.Clone(room)
	kept := func() bool {
		ok := slices.EqualFunc(room, was, sameRecs)
		for _, r := range slotRooms {
			ok = ok && roomsKept(r)
		}
		for _, r := range liveRooms {
			ok = ok && slices.Equal(r, livesOf(6, 1))
		}
		return ok
	}
	return impl.Log{Recs: room[:8], Sure: 3}, kept
}

// scribbleLog writes over all that hangs at a log, and over the room behind each list.
func scribbleLog(l impl.Log) {
	for i := range l.Recs {
		for _, s := range []impl.Slot{l.Recs[i].Before, l.Recs[i].After} {
			scribble(s.O.Ints)
			scribble(s.O.Refs)
		}
		txs := l.Recs[i].Txs
		clear(txs[:cap(txs)])
	}
	clear(l.Recs[:cap(l.Recs)])
}

func TestLogArgumentsAreLeft(t *testing.T) {
	l, kept := logRoom()
	wrong := l
	wrong.Sure = 9
	added, addedRooms := spareSlot()
	for _, l := range []impl.Log{l, wrong} {
		for _, n := range []int{-1, 0, 3, 5, 8, 9} {
			first, _ := impl.Append(l, impl.Rec{Tx: 1, Prev: max(n, 0), Kind: impl.RecSet, Oid: 3, Before: added, After: added})
			second, _ := impl.Append(l, impl.Rec{Prev: 1})
			impl.LogOk(l)
			impl.LogBytes(l)
			scribble(impl.Chain(l, n))
			for _, got := range []impl.Log{first, second, impl.Force(l, n), impl.Tear(l, n)} {
				scribbleLog(got)
			}
			if !kept() || !roomsKept(addedRooms) {
				t.Fatalf("%d: an argument was written into, or is shared", n)
			}
		}
	}
}

// logLists are all lists of numbers of a log's records.
func logLists(l impl.Log) [][]int {
	var out [][]int
	for _, r := range l.Recs {
		out = append(out, r.Before.O.Ints, r.Before.O.Refs, r.After.O.Ints, r.After.O.Refs)
	}
	return out
}

func TestLogAnswersShareNothing(t *testing.T) {
	list, lives := []int{1, 2, 3}, livesOf(3, 1)
	s := slotOf(7, list, list)
	set := impl.Rec{Tx: 1, Kind: impl.RecSet, Oid: 3, Before: s, After: s}
	l := impl.Log{Sure: 2}
	for i := range 4 {
		r := set
		if i%2 == 1 {
			r = impl.Rec{Kind: impl.RecCheck, Txs: lives}
		}
		r.Lsn = i + 1
		l.Recs = append(l.Recs, r)
	}
	wrong := l
	wrong.Sure = -1
	for name, answer := range map[string]func() impl.Log{
		"Append":          func() impl.Log { got, _ := impl.Append(l, set); return got },
		"Append, a check": func() impl.Log { got, _ := impl.Append(l, l.Recs[1]); return got },
		"Append, refused": func() impl.Log { got, _ := impl.Append(wrong, set); return got },
		"Force":           func() impl.Log { return impl.Force(l, 3) },
		"Force, refused":  func() impl.Log { return impl.Force(wrong, 3) },
		"Tear":            func() impl.Log { return impl.Tear(l, 1) },
		"Tear, refused":   func() impl.Log { return impl.Tear(wrong, 1) },
		"ReadLog":         func() impl.Log { got, _ := impl.ReadLog(impl.LogBytes(l)); return got },
	} {
		want := answer()
		for i := range logLists(want) {
			lists := logLists(answer())
			scribble(lists[i])
			for j, other := range logLists(want) {
				if j != i && !slices.Equal(lists[j], other) {
					t.Errorf("%s: list %d changed with list %d", name, j, i)
				}
			}
		}
		for i := range want.Recs {
			got := answer()
			txs := got.Recs[i].Txs
			clear(txs[:cap(txs)])
			for j := range want.Recs {
				if j != i && !sameRecs(got.Recs[j], want.Recs[j]) {
					t.Errorf("%s: record %d changed with the transactions of record %d", name, j, i)
				}
			}
		}
	}
	if !slices.Equal(list, []int{1, 2, 3}) || !slices.Equal(lives, livesOf(3, 1)) {
		t.Errorf("an answer shares memory with an argument: %v %v", list, lives)
	}
}

func TestReadingALogLeavesItsArgument(t *testing.T) {
	l := logOf(13, 13)
	whole := string(impl.LogBytes(l))
	b, room := spare(whole)
	got, at := impl.ReadLog(b)
	if at != len(whole) || !roomKept(room, whole) {
		t.Errorf("ReadLog wrote into its argument: %d %x", at, room)
	}
	clear(room)
	if !sameLogs(got, l) {
		t.Errorf("the answer changed with the argument: %+v", got)
	}
}

func TestLogCallsKeepNothing(t *testing.T) {
	l := logOf(13, 5)
	first := impl.LogBytes(l)
	for _, w := range wrongLogs() {
		impl.LogBytes(w)
		impl.Append(w, impl.Rec{})
		impl.Force(w, 1)
		impl.Tear(w, 1)
		impl.ReadLog(first[:len(first)-1])
	}
	if !bytes.Equal(impl.LogBytes(l), first) {
		t.Error("what was refused left something behind")
	}
	clear(first)
	for range 2 {
		got, at := impl.ReadLog(impl.LogBytes(l))
		if at != len(first) || !sameLogs(got, impl.Log{Recs: l.Recs, Sure: 13}) {
			t.Errorf("an answer is kept: %+v %d", got, at)
		}
		scribbleLog(got)
	}
}
