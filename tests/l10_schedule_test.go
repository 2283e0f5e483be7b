package tests

import (
	"fmt"
	"math"
	"slices"
	"strconv"
	"strings"
	"testing"

	"loop.example/g00181/impl"
)

// jobsOf reads "r1 a2+5 / w9=-3 q": jobs, with bars between, and their ops: to read, to add, to write and to quit.
func jobsOf(text string) [][]impl.Op {
	var out [][]impl.Op
	for _, part := range strings.Split(text, "/") {
		var ops []impl.Op
		for _, word := range strings.Fields(part) {
			ops = append(ops, opOf(word))
		}
		out = append(out, ops)
	}
	return out
}

func opOf(word string) impl.Op {
	op := impl.Op{Kind: 1 + strings.IndexByte("rwaq", word[0])}
	if op.Kind == impl.OpQuit {
		return op
	}
	digits, n := word[1:], ""
	if at := strings.IndexAny(digits, "=+-"); at >= 0 {
		digits, n = digits[:at], strings.TrimPrefix(digits[at:], "=")
	}
	var wrongOid, wrongN error
	op.Oid, wrongOid = strconv.Atoi(digits)
	if n != "" {
		op.N, wrongN = strconv.Atoi(n)
	}
	if op.Kind == 0 || wrongOid != nil || wrongN != nil {
		panic("no op: " + word)
	}
	return op
}

func grantsText(list []impl.Grant) string {
	var words []string
	for _, g := range list {
		words = append(words, fmt.Sprintf("%d.%d%s", g.Tx, g.Res, modeNames[g.Mode]))
	}
	return strings.Join(words, " ")
}

// schedText tells a right schedule, but for its engine: "W2@1=5" is a job that waits, of the Tx 2, did one op, and has the sum 5; then what is given, who waits, and the order.
func schedText(s impl.Sched) string {
	var words []string
	for i := range s.Jobs {
		words = append(words, fmt.Sprintf("%c%d@%d=%d", "NRWDQ"[s.State[i]], s.Tx[i], s.At[i], s.Sum[i]))
	}
	order := strings.Trim(fmt.Sprint(s.Order), "[]")
	return fmt.Sprintf("%s|%s|%s|%s", strings.Join(words, " "), grantsText(s.L.Given), grantsText(s.L.Waits), order)
}

func sameJobs(a [][]impl.Op, b [][]impl.Op) bool {
	return slices.EqualFunc(a, b, func(x []impl.Op, y []impl.Op) bool { return slices.Equal(x, y) })
}

func schedInts(s impl.Sched) [][]int { return [][]int{s.At, s.Tx, s.Sum, s.State, s.Order} }

func sameScheds(a impl.Sched, b impl.Sched) bool {
	ints := slices.EqualFunc(schedInts(a), schedInts(b), func(x []int, y []int) bool { return slices.Equal(x, y) })
	return ints && sameJobs(a.Jobs, b.Jobs) && sameLocks(a.L, b.L) && sameEngines(a.E, b.E)
}

func deepJobs(jobs [][]impl.Op) [][]impl.Op {
	out := slices.Clone(jobs)
	for i := range out {
		out[i] = slices.Clone(out[i])
	}
	return out
}

// deepSched is a schedule that nothing which is done to s can reach.
func deepSched(s impl.Sched) impl.Sched {
	s.E, s.L, s.Jobs = deepEngine(s.E), cloneLocks(s.L), deepJobs(s.Jobs)
	s.At, s.Tx, s.Sum, s.State, s.Order = slices.Clone(s.At), slices.Clone(s.Tx), slices.Clone(s.Sum), slices.Clone(s.State), slices.Clone(s.Order)
	return s
}

func isZeroSched(s impl.Sched) bool { return sameScheds(s, impl.Sched{}) }

// What follows, to plainSerial, is the chapter once more, by other means: what the calls are held against.

func plainOpOk(op impl.Op) bool {
	if op.Kind == 4 {
		return op == impl.Op{Kind: 4}
	}
	return op.Kind > 0 && op.Kind < 4 && op.Oid > 0 && op.Oid < 32 && op.N > -1001 && op.N < 1001
}

func plainJobsOk(jobs [][]impl.Op) bool {
	ok := len(jobs) < 5
	for _, ops := range jobs {
		ok = ok && len(ops) < 7
		for _, op := range ops {
			ok = ok && plainOpOk(op)
		}
	}
	return ok
}

func plainSchedOk(s impl.Sched) bool {
	n := len(s.Jobs)
	ok := plainEngineOk(s.E) && plainLocksOk(s.L) && plainJobsOk(s.Jobs)
	ok = ok && !s.E.Down && len(s.E.Log.Recs) < 1001 && s.E.Next < 501 && len(s.E.Txs) <= n
	ok = ok && len(s.At) == n && len(s.Tx) == n && len(s.Sum) == n && len(s.State) == n
	for i := 0; ok && i < n; i++ {
		busy := s.State[i] == 1 || s.State[i] == 2
		ok = s.At[i] >= 0 && s.At[i] <= len(s.Jobs[i]) && s.Sum[i] >= -1000000 && s.Sum[i] <= 1000000 && s.State[i] >= 0 && s.State[i] <= 4
		ok = ok && (plainLive(s.E, s.Tx[i]) >= 0) == busy
		for j := range n {
			ok = ok && (j == i || s.Tx[j] != s.Tx[i] || s.Tx[i] < 1)
		}
	}
	return ok
}

func plainNew(jobs [][]impl.Op) impl.Sched {
	if !plainJobsOk(jobs) {
		return impl.Sched{}
	}
	n := len(jobs)
	return impl.Sched{E: impl.Engine{Next: 1}, Jobs: deepJobs(jobs), At: make([]int, n), Tx: make([]int, n), Sum: make([]int, n), State: make([]int, n)}
}

func plainBound(n int) int {
	if n > 1000000 {
		return 1000000
	}
	if n < -1000000 {
		return -1000000
	}
	return n
}

func plainFirst(o impl.Obj) int {
	for _, n := range o.Ints {
		return n
	}
	return 0
}

// plainLeave ends a job's transaction, and drops what it has and waits for.
func plainLeave(s *impl.Sched, i int, how func(int) engCall) {
	s.E = callEngine(s.E, how(s.Tx[i])).e
	s.L, _ = plainDrop(s.L, s.Tx[i])
}

func plainOp(s *impl.Sched, i int, op impl.Op) {
	number := func() int {
		a := callEngine(s.E, get(op.Oid))
		s.E = a.e
		return plainFirst(a.s.O)
	}
	switch op.Kind {
	case 1:
		s.Sum[i] = plainBound(s.Sum[i] + number())
	case 2:
		s.E = callEngine(s.E, set(s.Tx[i], op.Oid, numbered(op.N))).e
	case 3:
		n := plainBound(number() + op.N)
		s.E = callEngine(s.E, set(s.Tx[i], op.Oid, numbered(n))).e
	}
	s.At[i]++
}

// plainLoose tells who was undone.
func plainLoose(s *impl.Sched) []int {
	var undone []int
	for who := plainStuck(s.L); who > 0; who = plainStuck(s.L) {
		j := slices.Index(s.Tx, who)
		if j < 0 {
			break
		}
		undone = append(undone, j)
		plainLeave(s, j, abort)
		s.State[j], s.At[j], s.Sum[j], s.Tx[j] = 0, 0, 0, 0
	}
	return undone
}

// plainStep is a step of a job, in place, and the jobs that were undone by it because they were stuck.
func plainStep(s *impl.Sched, i int) []int {
	if i < 0 || i >= len(s.Jobs) || s.State[i] > 2 || s.State[i] == 2 && isWaiting(s.L, s.Tx[i]) {
		return nil
	}
	if s.State[i] == 0 {
		a := callEngine(s.E, begin())
		if a.code != impl.EngGood {
			return nil
		}
		s.E, s.Tx[i] = a.e, a.tx
	}
	s.State[i] = 1
	if s.At[i] < len(s.Jobs[i]) {
		op := s.Jobs[i][s.At[i]]
		if op.Kind == 4 {
			plainLeave(s, i, abort)
			s.State[i] = 4
			return nil
		}
		l, code := plainAsk(s.L, s.Tx[i], op.Oid, []int{0, 3, 4, 4}[op.Kind])
		s.L = l
		switch code {
		case 1:
			s.State[i] = 2
			return plainLoose(s)
		case 2:
			return nil
		}
		plainOp(s, i, op)
	}
	if s.At[i] == len(s.Jobs[i]) {
		plainLeave(s, i, commit)
		s.State[i] = 3
		s.Order = append(s.Order, i)
	}
	return nil
}

func plainPickAll(s impl.Sched, list []int) impl.Sched {
	s = deepSched(s)
	if plainSchedOk(s) {
		for n := 0; n < len(list) && n < 100; n++ {
			plainStep(&s, list[n])
		}
	}
	return s
}

func plainResting(s impl.Sched) bool {
	return !slices.ContainsFunc(s.State, func(state int) bool { return state < 3 })
}

func plainRest(s impl.Sched) impl.Sched {
	s = deepSched(s)
	if plainSchedOk(s) {
		for n := 0; n < 400 && !plainResting(s); n++ {
			plainStep(&s, n%len(s.Jobs))
		}
	}
	return s
}

func plainSerial(jobs [][]impl.Op, order []int) impl.Sched {
	s := plainNew(jobs)
	for _, i := range order {
		for n := 0; n < 20 && i >= 0 && i < len(s.Jobs) && s.State[i] < 3; n++ {
			plainStep(&s, i)
		}
	}
	return s
}

func checkAnswer(t *testing.T, what string, s impl.Sched, was impl.Sched, got impl.Sched, want impl.Sched) {
	t.Helper()
	if !sameScheds(got, want) {
		t.Fatalf("%s of %+v:\n%+v\nwant\n%+v", what, was, got, want)
	}
	if !sameScheds(s, was) {
		t.Fatalf("%s made\n%+v\nof\n%+v", what, s, was)
	}
}

func checkPick(t *testing.T, s impl.Sched, i int) impl.Sched {
	t.Helper()
	was := deepSched(s)
	got := impl.Pick(s, i)
	checkAnswer(t, fmt.Sprint("Pick of ", i), s, was, got, plainPickAll(was, []int{i}))
	return got
}

func checkPickAll(t *testing.T, s impl.Sched, list []int) impl.Sched {
	t.Helper()
	was, listWas := deepSched(s), slices.Clone(list)
	got := impl.PickAll(s, list)
	checkAnswer(t, fmt.Sprint("PickAll of ", list), s, was, got, plainPickAll(was, listWas))
	if !slices.Equal(list, listWas) {
		t.Fatalf("PickAll made %v of %v", list, listWas)
	}
	return got
}

func checkRest(t *testing.T, s impl.Sched) impl.Sched {
	t.Helper()
	was := deepSched(s)
	got := impl.Rest(s)
	checkAnswer(t, "Rest", s, was, got, plainRest(was))
	return got
}

func checkSerial(t *testing.T, jobs [][]impl.Op, order []int) impl.Sched {
	t.Helper()
	jobsWere, orderWas := deepJobs(jobs), slices.Clone(order)
	got := impl.Serial(jobs, order)
	if want := plainSerial(jobsWere, orderWas); !sameScheds(got, want) {
		t.Fatalf("Serial of %v, %v:\n%+v\nwant\n%+v", jobs, order, got, want)
	}
	if !sameJobs(jobs, jobsWere) || !slices.Equal(order, orderWas) {
		t.Fatalf("Serial made %v, %v of %v, %v", jobs, order, jobsWere, orderWas)
	}
	return got
}

func viewOf(e impl.Engine) []impl.Slot {
	out := make([]impl.Slot, impl.MaxOid+1)
	for oid := 1; oid <= impl.MaxOid; oid++ {
		out[oid] = plainLook(e, oid)
	}
	return out
}

// oneByOne is what these jobs make of the objects, and their sums, when each runs alone, told without engines and locks.
func oneByOne(jobs [][]impl.Op, order []int, view []impl.Slot) ([]impl.Slot, []int) {
	now, sums := slices.Clone(view), make([]int, len(jobs))
	for _, i := range order {
		mine, sum := slices.Clone(now), 0
		quits := false
		for _, op := range jobs[i] {
			number := plainFirst(mine[max(op.Oid, 0)].O)
			switch op.Kind {
			case impl.OpRead:
				sum = plainBound(sum + number)
			case impl.OpWrite:
				mine[op.Oid] = numbered(op.N)
			case impl.OpAdd:
				mine[op.Oid] = numbered(plainBound(number + op.N))
			case impl.OpQuit:
				quits = true
			}
		}
		if !quits {
			now, sums[i] = mine, sum
		}
	}
	return now, sums
}

// checkAtRest asks all that the promise says of jobs that began with these objects.
func checkAtRest(t *testing.T, s impl.Sched, view []impl.Slot) {
	t.Helper()
	if !plainResting(s) || len(s.L.Given)+len(s.L.Waits)+len(s.E.Txs)+len(s.E.Holds) != 0 {
		t.Fatalf("jobs %v are not at rest: %s", s.Jobs, schedText(s))
	}
	want, sums := oneByOne(s.Jobs, s.Order, view)
	if got := viewOf(s.E); !sameViews(got, want) {
		t.Fatalf("jobs %v in the order %v made %v, must have made %v", s.Jobs, s.Order, got, want)
	}
	for i, state := range s.State {
		quits := slices.Contains(s.Jobs[i], impl.Op{Kind: impl.OpQuit})
		times := len(slices.DeleteFunc(slices.Clone(s.Order), func(j int) bool { return j != i }))
		if quits && (state != impl.JobQuit || times != 0) || !quits && (state != impl.JobDone || times != 1 || s.At[i] != len(s.Jobs[i]) || s.Sum[i] != sums[i]) {
			t.Fatalf("job %d of %v, must have the sum %d: %s", i, s.Jobs, sums[i], schedText(s))
		}
	}
	up, ok := impl.Restart(impl.Crash(s.E, 0), allSteps)
	if !ok || !sameViews(viewOf(up), want) {
		t.Fatalf("jobs %v behind a crash: %v, %v", s.Jobs, ok, viewOf(up))
	}
}

// checkAsSerial asks that objects and sums are as Serial of Order makes them.
func checkAsSerial(t *testing.T, s impl.Sched) {
	t.Helper()
	serial := checkSerial(t, s.Jobs, s.Order)
	if !sameViews(viewOf(s.E), viewOf(serial.E)) || !slices.Equal(s.Order, serial.Order) {
		t.Fatalf("jobs %v: %s, by Serial %s", s.Jobs, schedText(s), schedText(serial))
	}
	for _, i := range s.Order {
		if s.Sum[i] != serial.Sum[i] || serial.State[i] != impl.JobDone {
			t.Fatalf("the sum of job %d of %v: %s, by Serial %s", i, s.Jobs, schedText(s), schedText(serial))
		}
	}
}

func TestScheduleConstants(t *testing.T) {
	ops := []int{impl.OpRead, impl.OpWrite, impl.OpAdd, impl.OpQuit}
	states := []int{impl.JobNew, impl.JobRuns, impl.JobWaits, impl.JobDone, impl.JobQuit}
	if !slices.Equal(ops, []int{1, 2, 3, 4}) || !slices.Equal(states, []int{0, 1, 2, 3, 4}) {
		t.Errorf("ops %v, states %v", ops, states)
	}
}

// mostJobs are as many jobs of as many ops, of each kind that goes on.
func mostJobs(jobs int, ops int) [][]impl.Op {
	out := make([][]impl.Op, jobs)
	for i := range out {
		for n := range ops {
			out[i] = append(out[i], impl.Op{Kind: n%3 + 1, Oid: 1 + (7*n+5*i)%31, N: 300*n - 1000})
		}
	}
	return out
}

func rightJobs() [][][]impl.Op {
	out := [][][]impl.Op{nil, {}, {nil}, {{}}, {nil, {}, nil, {}}, mostJobs(4, 6), mostJobs(1, 6), mostJobs(4, 1), jobsOf("q"), jobsOf("q q q q q q/q/q/q"), jobsOf("/r1//w31=1000")}
	for _, n := range []int{-1000, -999, -1, 0, 1, 999, 1000} {
		for _, oid := range []int{1, 2, 30, 31} {
			for kind := impl.OpRead; kind <= impl.OpAdd; kind++ {
				out = append(out, [][]impl.Op{{{Kind: kind, Oid: oid, N: n}}})
			}
		}
	}
	return out
}

// wrongOps are not right by one thing each.
func wrongOps() []impl.Op {
	var out []impl.Op
	for _, kind := range []int{0, -1, 5, 6, 99, math.MaxInt64, math.MinInt64} {
		out = append(out, impl.Op{Kind: kind, Oid: 1}, impl.Op{Kind: kind})
	}
	for kind := impl.OpRead; kind <= impl.OpAdd; kind++ {
		for _, oid := range []int{0, -1, 32, 33, math.MaxInt64, math.MinInt64} {
			out = append(out, impl.Op{Kind: kind, Oid: oid})
		}
		for _, n := range []int{1001, -1001, 1000000, math.MaxInt64, math.MinInt64} {
			out = append(out, impl.Op{Kind: kind, Oid: 1, N: n})
		}
	}
	for _, n := range []int{1, -1, 31, 1000, -1000, math.MaxInt64, math.MinInt64} {
		out = append(out, impl.Op{Kind: impl.OpQuit, Oid: n}, impl.Op{Kind: impl.OpQuit, N: n}, impl.Op{Kind: impl.OpQuit, Oid: n, N: n})
	}
	return out
}

func wrongJobs() [][][]impl.Op {
	out := [][][]impl.Op{mostJobs(5, 6), mostJobs(5, 0), mostJobs(4, 7), mostJobs(1, 7), {nil, nil, nil, nil, nil}, append(mostJobs(3, 6), mostJobs(1, 7)...), jobsOf("q q q q q q q")}
	for _, op := range wrongOps() {
		out = append(out, [][]impl.Op{{op}})
		for _, at := range []struct{ job, op int }{{0, 0}, {0, 5}, {3, 0}, {3, 5}} {
			jobs := mostJobs(4, 6)
			jobs[at.job][at.op] = op
			out = append(out, jobs)
		}
	}
	return out
}

func TestJobsOk(t *testing.T) {
	for _, jobs := range rightJobs() {
		if !impl.JobsOk(jobs) || !plainJobsOk(jobs) {
			t.Errorf("%v are right", jobs)
		}
	}
	for _, jobs := range wrongJobs() {
		was := deepJobs(jobs)
		if impl.JobsOk(jobs) || plainJobsOk(jobs) {
			t.Errorf("%v are not right", jobs)
		}
		if !sameJobs(jobs, was) {
			t.Errorf("JobsOk made %v of %v", jobs, was)
		}
	}
	for n := range 9 {
		for m := range 9 {
			if got := impl.JobsOk(mostJobs(n, m)); got != (n == 0 || n <= 4 && m <= 6) {
				t.Errorf("%d jobs of %d ops: %v", n, m, got)
			}
		}
	}
}

func TestSchedNew(t *testing.T) {
	for _, jobs := range rightJobs() {
		n := len(jobs)
		s := impl.SchedNew(jobs)
		want := impl.Sched{E: impl.Engine{Next: 1}, Jobs: jobs, At: make([]int, n), Tx: make([]int, n), Sum: make([]int, n), State: make([]int, n)}
		if !sameScheds(s, want) || !impl.SchedOk(s) {
			t.Errorf("of %v: %+v", jobs, s)
		}
	}
	for _, jobs := range wrongJobs() {
		was := deepJobs(jobs)
		if s := impl.SchedNew(jobs); !isZeroSched(s) || impl.SchedOk(s) {
			t.Errorf("of %v: %+v", jobs, s)
		}
		if s := checkSerial(t, jobs, []int{0, 1, 2, 3}); !isZeroSched(s) {
			t.Errorf("Serial of %v: %+v", jobs, s)
		}
		if !sameJobs(jobs, was) {
			t.Errorf("SchedNew made %v of %v", jobs, was)
		}
	}
}

// Each row: jobs, picks one behind the other, and what the schedule tells then.
func TestPickForms(t *testing.T) {
	for _, x := range []struct {
		jobs  string
		picks []int
		want  string
	}{
		// No step, and one of each kind; a job whose last op is done is done.
		{"r1", nil, "N0@0=0|||"},
		{"", []int{0}, "D1@0=0|||0"},
		{"r1", []int{0}, "D1@1=0|||0"},
		{"w1=5", []int{0}, "D1@1=0|||0"},
		{"a1+5", []int{0}, "D1@1=0|||0"},
		{"q", []int{0}, "Q1@0=0|||"},
		{"r1 r1", []int{0}, "R1@1=0|1.1S||"},
		{"w1=5 r1", []int{0}, "R1@1=0|1.1X||"},
		{"a1+5 r1", []int{0}, "R1@1=0|1.1X||"},
		{"w1=5 r1", []int{0, 0}, "D1@2=5|||0"},
		{"w1=5 q", []int{0, 0}, "Q1@1=0|||"},
		{"w1=5 r1 q", []int{0, 0, 0}, "Q1@2=5|||"},
		{"q r1", []int{0}, "Q1@0=0|||"},
		{"/", []int{1, 0}, "D2@0=0 D1@0=0|||1 0"},
		// Picks of no job, and of one that is done or has quit.
		{"r1", []int{-1, 1, 2, 4, math.MaxInt64, math.MinInt64}, "N0@0=0|||"},
		{"r1/r2", []int{0, 0, 0}, "D1@1=0 N0@0=0|||0"},
		{"q/r2", []int{0, 0, 0}, "Q1@0=0 N0@0=0|||"},
		{"w1=5 q/r1 r1", []int{0, 0, 0, 1, 0}, "Q1@1=0 R2@1=0|2.1S||"},
		// What it has, and more of it.
		{"r1 r1 r2", []int{0, 0}, "R1@2=0|1.1S||"},
		{"w1=5 w1=6 r2", []int{0, 0}, "R1@2=0|1.1X||"},
		{"w1=5 r1 a1+1 r2", []int{0, 0, 0}, "R1@3=5|1.1X||"},
		{"r1 w1=5 r1 r2", []int{0, 0, 0}, "R1@3=5|1.1X||"},
		{"r1 r2 r3 a1+1 r2", []int{0, 0, 0, 0}, "R1@4=0|1.1X 1.2S 1.3S||"},
		// What another one has.
		{"r1 r2/r1 r2", []int{0, 1, 0, 1}, "D1@2=0 D2@2=0|||0 1"},
		{"r1 r2/w1=1 r2", []int{0, 1}, "R1@1=0 W2@0=0|1.1S|2.1X|"},
		{"w1=1 r2/r1 r2", []int{0, 1}, "R1@1=0 W2@0=0|1.1X|2.1S|"},
		{"a1+1 r2/a1+1 r2", []int{0, 1}, "R1@1=0 W2@0=0|1.1X|2.1X|"},
		{"r1 w1=1/r1 r2", []int{0, 1, 0}, "W1@1=0 R2@1=0|1.1S 2.1S|1.1X|"},
		{"r1 r2/w1=1/r1 r3", []int{0, 1, 2}, "R1@1=0 W2@0=0 W3@0=0|1.1S|2.1X 3.1S|"},
		// Who waits does nothing; woken it goes on with the op that it waited with.
		{"r1 r2/w1=1 r2", []int{0, 1, 1, 1}, "R1@1=0 W2@0=0|1.1S|2.1X|"},
		{"r1 r2/w1=1 r2", []int{0, 1, 0}, "D1@2=0 W2@0=0|2.1X||0"},
		{"r1 r2/w1=1 r2", []int{0, 1, 0, 1}, "D1@2=0 R2@1=0|2.1X||0"},
		{"w1=7 q/r1 r2", []int{0, 1, 0}, "Q1@1=0 W2@0=0|2.1S||"},
		{"w1=7 q/r1 r2", []int{0, 1, 0, 1}, "Q1@1=0 R2@1=0|2.1S||"},
		{"w1=7 r2/r1 r2", []int{0, 1, 0, 1}, "D1@2=0 R2@1=7|2.1S||0"},
		{"w1=7 r2/r1/r1/a1+1", []int{0, 1, 2, 3, 0}, "D1@2=0 W2@0=0 W3@0=0 W4@0=0|2.1S 3.1S|4.1X|0"},
		{"w1=7 r2/r1/r1/a1+1", []int{0, 1, 2, 3, 0, 3, 2, 1}, "D1@2=0 D2@1=7 D3@1=7 W4@0=0|4.1X||0 2 1"},
		// Two that are stuck: the later one begins anew, whoever was picked.
		{"a1+1 a2+1/a2+1 a1+1", []int{0, 1, 0, 1}, "W1@1=0 N0@0=0|1.1X 1.2X||"},
		{"a1+1 a2+1/a2+1 a1+1", []int{0, 1, 1, 0}, "W1@1=0 N0@0=0|1.1X 1.2X||"},
		{"a1+1 a2+1/a2+1 a1+1", []int{1, 0, 0, 1}, "N0@0=0 W1@1=0|1.2X 1.1X||"},
		{"a1+1 a2+1/a2+1 a1+1", []int{0, 1, 0, 1, 1}, "W1@1=0 W3@0=0|1.1X 1.2X|3.2X|"},
		{"a1+1 a2+1/a2+1 a1+1", []int{0, 1, 0, 1, 1, 0}, "D1@2=0 W3@0=0|3.2X||0"},
		{"a1+1 a2+1/a2+1 a1+1", []int{0, 1, 0, 1, 1, 0, 1, 1}, "D1@2=0 D3@2=0|||0 1"},
		{"w1=4 r1 a2+1/a2+1 r2 a1+1", []int{0, 0, 1, 1, 0, 1}, "W1@2=4 N0@0=0|1.1X 1.2X||"},
		{"r1 a1+1/r1 a1+1", []int{0, 1, 0, 1}, "W1@1=0 N0@0=0|1.1X||"},
		{"r1 a1+1/r1 a1+1", []int{0, 1, 1, 0}, "W1@1=0 N0@0=0|1.1X||"},
		// Three that are stuck.
		{"a1+1 a2+1/a2+1 a3+1/a3+1 a1+1", []int{0, 1, 2, 0, 1, 2}, "W1@1=0 W2@1=0 N0@0=0|1.1X 2.2X 2.3X|1.2X|"},
		{"a1+1 a2+1/a2+1 a3+1/a3+1 a1+1", []int{0, 1, 2, 2, 1, 0}, "W1@1=0 W2@1=0 N0@0=0|1.1X 2.2X 2.3X|1.2X|"},
		{"a1+1 a2+1/a2+1 a3+1/a3+1 a1+1", []int{2, 0, 1, 0, 1, 2}, "W2@1=0 N0@0=0 W1@1=0|1.3X 2.1X 2.2X|1.1X|"},
		{"a1+1 a2+1/a2+1 a3+1/a3+1 a4+1/a4+1 a1+1", []int{0, 1, 2, 3, 3, 2, 1, 0}, "W1@1=0 W2@1=0 W3@1=0 N0@0=0|1.1X 2.2X 3.3X 3.4X|2.3X 1.2X|"},
		// Several circles, one behind the other, by one pick.
		{"a1+1 a2+1/r2 r1/r2 r1", []int{0, 1, 2, 1, 2, 0}, "W1@1=0 N0@0=0 N0@0=0|1.1X 1.2X||"},
		{"a1+1 a2+1/r2 r1/r2 r1/r2 r1", []int{0, 1, 2, 3, 1, 2, 3, 0}, "W1@1=0 N0@0=0 N0@0=0 N0@0=0|1.1X 1.2X||"},
		{"a1+1 a2+1/r2 r1/r2 r1/r2 r3", []int{0, 1, 2, 3, 1, 2, 0}, "W1@1=0 N0@0=0 N0@0=0 R4@1=0|1.1X 4.2S|1.2X|"},
		{"r1 a2+1/r2 a1+1/r1 r2 r3", []int{0, 1, 2, 2, 0, 1}, "W1@1=0 N0@0=0 R3@2=0|1.1S 3.1S 3.2S|1.2X|"},
		// One who leads into a circle is not of it; one who waits ahead of another one in it is.
		{"a1+1 a3+1 a2+1/a2+1 a1+1/r3", []int{0, 0, 1, 2, 0, 1}, "W1@2=0 N0@0=0 W3@0=0|1.1X 1.3X 1.2X|3.3S|"},
		{"a1+1 a2+1/a2+1 a1+1/r1", []int{0, 1, 2, 0, 1}, "W1@1=0 N0@0=0 N0@0=0|1.1X 1.2X||"},
		{"r1 r2/w2=1 r3/w1=2/r3 r1", []int{0, 1, 2, 0}, "W1@1=0 R2@1=0 W3@0=0 N0@0=0|1.1S 2.2X|3.1X 1.2S|"},
		{"r1 r3/w1=2/w3=1 r1", []int{0, 1, 2, 2, 0}, "W1@1=0 W2@0=0 N0@0=0|1.1S 1.3S|2.1X|"},
	} {
		s := impl.SchedNew(jobsOf(x.jobs))
		for _, i := range x.picks {
			s = checkPick(t, s, i)
			if !impl.SchedOk(s) {
				t.Fatalf("%q, %v: not right: %s", x.jobs, x.picks, schedText(s))
			}
		}
		if got := schedText(s); got != x.want {
			t.Errorf("%q, %v: %s, want %s", x.jobs, x.picks, got, x.want)
		}
		if all := checkPickAll(t, impl.SchedNew(jobsOf(x.jobs)), x.picks); !sameScheds(all, s) {
			t.Errorf("%q, %v: at once %s", x.jobs, x.picks, schedText(all))
		}
		rested := checkRest(t, s)
		checkAtRest(t, rested, make([]impl.Slot, impl.MaxOid+1))
		checkAsSerial(t, rested)
	}
}

// schedOn are these jobs, new, on an engine that something was done in already.
func schedOn(e impl.Engine, jobs [][]impl.Op) impl.Sched {
	s := impl.SchedNew(jobs)
	s.E = e
	return s
}

// engineWith has just this object, committed.
func engineWith(t *testing.T, oid int, slot impl.Slot) impl.Engine {
	return engineOf(t, begin(), set(1, oid, slot), commit(1)).e
}

func TestNumbersOfObjects(t *testing.T) {
	for _, x := range []struct {
		slot   impl.Slot
		number int
	}{
		{impl.Slot{}, 0},
		{slotOf(1, nil, nil), 0},
		{slotOf(99, nil, []int{5, 31}), 0},
		{slotOf(7, []int{0}, nil), 0},
		{slotOf(7, []int{5}, nil), 5},
		{slotOf(7, []int{-5}, []int{0, 7}), -5},
		{slotOf(7, []int{0, 9}, nil), 0},
		{slotOf(7, []int{3, 9, 11, 12, 13}, []int{4}), 3},
		{slotOf(7, []int{-1000000, 1000000}, nil), -1000000},
		{slotOf(7, []int{1000000, -1000000}, nil), 1000000},
	} {
		for _, oid := range []int{1, 4, 31} {
			e := engineWith(t, oid, x.slot)
			read := checkPick(t, schedOn(e, [][]impl.Op{{{Kind: impl.OpRead, Oid: oid, N: 1000}, {Kind: impl.OpRead, Oid: 9}}}), 0)
			if read.Sum[0] != x.number || !sameSlot(plainLook(read.E, oid), x.slot) || len(read.E.Holds) != 0 {
				t.Errorf("read of %v: %s", x.slot, schedText(read))
			}
			for _, n := range []int{-1000, -999, -1, 0, 1, 999, 1000} {
				wrote := checkPick(t, schedOn(e, [][]impl.Op{{{Kind: impl.OpWrite, Oid: oid, N: n}}}), 0)
				if got := plainLook(wrote.E, oid); !sameSlot(got, numbered(n)) || wrote.Sum[0] != 0 {
					t.Errorf("write of %d to %v: %v", n, x.slot, got)
				}
				added := checkPick(t, schedOn(e, [][]impl.Op{{{Kind: impl.OpAdd, Oid: oid, N: n}}}), 0)
				want := min(max(x.number+n, -1000000), 1000000)
				if got := plainLook(added.E, oid); !sameSlot(got, numbered(want)) || added.Sum[0] != 0 {
					t.Errorf("add of %d to %v: %v", n, x.slot, got)
				}
			}
		}
	}
}

func TestSumsAtTheirBounds(t *testing.T) {
	for _, x := range []struct{ sum, number, want int }{
		{0, 1000000, 1000000}, {0, -1000000, -1000000},
		{1000000, 0, 1000000}, {1000000, 1, 1000000}, {1000000, 1000000, 1000000}, {1000000, -1, 999999}, {1000000, -1000000, 0},
		{999999, 1, 1000000}, {999999, 2, 1000000}, {999998, 1, 999999},
		{-1000000, 0, -1000000}, {-1000000, -1, -1000000}, {-1000000, -1000000, -1000000}, {-1000000, 1, -999999}, {-1000000, 1000000, 0},
		{-999999, -1, -1000000}, {-999999, -2, -1000000}, {-999998, -1, -999999},
	} {
		s := schedOn(engineWith(t, 6, slotOf(2, []int{x.number, 44}, nil)), jobsOf("r6 r5"))
		s.Sum[0] = x.sum
		if got := checkPick(t, s, 0); got.Sum[0] != x.want || !impl.SchedOk(got) {
			t.Errorf("%d and %d: %d, want %d", x.sum, x.number, got.Sum[0], x.want)
		}
	}
}

// Each of many adds counts as the bound where it is beyond it: what is taken away then is taken from the bound.
func TestNumbersComeBackFromTheirBounds(t *testing.T) {
	e := engineWith(t, 6, numbered(999500))
	s := checkRest(t, schedOn(e, jobsOf("a6+1000 r6 a6-1000 r6 a6-1 r6")))
	if s.Sum[0] != 1000000 || !sameSlot(plainLook(s.E, 6), numbered(998999)) {
		t.Errorf("%s, %v", schedText(s), plainLook(s.E, 6))
	}
	checkAtRest(t, s, viewOf(e))
	e = engineWith(t, 6, numbered(-999500))
	s = checkRest(t, schedOn(e, jobsOf("a6-1000 r6 a6+1000 r6/r6")))
	if !slices.Equal(s.Sum, []int{-1000000, -999000}) {
		t.Errorf("%s, %v", schedText(s), plainLook(s.E, 6))
	}
	checkAtRest(t, s, viewOf(e))
}

// Who quits, or is stuck, leaves objects as they were, whatever they were.
func TestWhatWasSetIsUndone(t *testing.T) {
	for _, slot := range sampleSlots() {
		e := engineWith(t, 9, slot)
		quit := schedOn(e, jobsOf("w9=1 a9+5 r9 w30=4 q/r9 r30"))
		for range 5 {
			quit = checkPick(t, quit, 0)
		}
		if got := plainLook(quit.E, 9); schedText(quit) != "Q2@4=6 N0@0=0|||" || !sameSlot(got, slot) || plainLook(quit.E, 30).Has || len(quit.E.Holds)+len(quit.E.Txs) != 0 {
			t.Errorf("%v is %v: %s", slot, got, schedText(quit))
		}
		rested := checkRest(t, quit)
		if rested.Sum[1] != plainFirst(slot.O) {
			t.Errorf("%v: %s", slot, schedText(rested))
		}
		checkAtRest(t, rested, viewOf(e))
		stuck := checkPickAll(t, schedOn(e, jobsOf("a1+1 r9/w9=1 a9+5 r9 r1")), []int{0, 1, 1, 1, 0})
		if got := plainLook(stuck.E, 9); schedText(stuck) != "W2@1=0 R3@3=6|2.1X 3.9X|2.9S|" || !sameSlot(got, numbered(6)) {
			t.Errorf("ahead of it: %v, %s", got, schedText(stuck))
		}
		stuck = checkPick(t, stuck, 1)
		if got := plainLook(stuck.E, 9); schedText(stuck) != "W2@1=0 N0@0=0|2.1X 2.9S||" || !sameSlot(got, slot) {
			t.Errorf("%v is %v: %s", slot, got, schedText(stuck))
		}
		checkAtRest(t, checkRest(t, stuck), viewOf(e))
	}
}

// midSched has a job that is done, one that has quit, one that runs, and one that waits.
func midSched() impl.Sched {
	return impl.PickAll(impl.SchedNew(jobsOf("w9=4 r9/w9=7 q/a1+1 a2+1 r5/a5+1 r1 a2+3")), []int{0, 0, 1, 1, 2, 3, 3})
}

// busySched has four jobs that run, of the transactions of an engine that did all kinds of things.
func busySched(t *testing.T) impl.Sched {
	s := schedOn(busyEngine(t), jobsOf("r1 r5 r6/w9=1 r10 a31+1/a7+1 q/"))
	s.Tx, s.State = []int{3, 4, 5, 6}, []int{1, 1, 1, 1}
	return s
}

func TestMidSched(t *testing.T) {
	if got := schedText(midSched()); got != "D1@2=4 Q2@1=0 R3@1=0 W4@1=0|3.1X 4.5X|4.1S|0" {
		t.Fatalf("the schedule that others are made of has not all it should: %s", got)
	}
}

// foreignSched has new jobs alone, on an engine in which so many transactions are under way that are no job's, and of which each holds an object.
func foreignSched(t *testing.T, txs int, jobs string) impl.Sched {
	m := engineOf(t)
	for tx := 1; tx <= txs; tx++ {
		m = m.then(begin(), set(tx, tx, numbered(tx)))
	}
	return schedOn(m.e, jobsOf(jobs))
}

// goodScheds are right, at each edge of what SchedOk asks; most of them no picks would make.
func goodScheds(t *testing.T) []impl.Sched {
	out := []impl.Sched{impl.SchedNew(nil), impl.SchedNew(mostJobs(4, 6)), midSched(), busySched(t), impl.Rest(midSched())}
	add := func(from impl.Sched, change func(s *impl.Sched)) {
		s := deepSched(from)
		change(&s)
		out = append(out, s)
	}
	for i := range 4 {
		add(midSched(), func(s *impl.Sched) { s.At[i] = len(s.Jobs[i]) })
		add(midSched(), func(s *impl.Sched) { s.At[i] = 0 })
		add(midSched(), func(s *impl.Sched) { s.Sum[i] = 1000000 })
		add(midSched(), func(s *impl.Sched) { s.Sum[i] = -1000000 })
		add(busySched(t), func(s *impl.Sched) { s.State[i] = impl.JobWaits })
	}
	for _, order := range [][]int{nil, {}, {0, 1, 2, 3}, {3, 3, 3, 3, 3, 3}, {-1, 99, math.MaxInt64, math.MinInt64}, make([]int, 1000)} {
		add(midSched(), func(s *impl.Sched) { s.Order = order })
	}
	// Who is new, is done or has quit has any Tx that is not under way; below 1 two may have the same.
	for _, tx := range [][2]int{{0, 0}, {-1, -1}, {math.MinInt64, math.MinInt64}, {1, 0}, {99, 100}, {1000, math.MaxInt64}} {
		for _, state := range []int{impl.JobNew, impl.JobDone, impl.JobQuit} {
			add(midSched(), func(s *impl.Sched) { s.Tx[0], s.Tx[1], s.State[0], s.State[1] = tx[0], tx[1], state, state })
		}
	}
	for _, l := range sampleLocks() {
		add(midSched(), func(s *impl.Sched) { s.L = l })
		add(busySched(t), func(s *impl.Sched) { s.L = l })
	}
	for _, l := range []string{"", "3.1S 4.1S|5.1X", "3.1X 4.9X 5.7X|3.9S 4.1S", "1.1X 2.2X|1.2X 2.1X", "50.1X 60.9X|50.9X 60.1X", "50.7X|50.1X 3.7X", "3.1X 50.5X|50.1S", "1.9X 3.1X|3.9S 1.1S", "|3.1S 4.9X 5.7X"} {
		add(busySched(t), func(s *impl.Sched) { s.L = locks(l) })
	}
	add(busySched(t), func(s *impl.Sched) { s.E.Next = 500 })
	add(impl.SchedNew(jobsOf("r1 a2+1/")), func(s *impl.Sched) { s.E.Next = 500 })
	for n := range 5 {
		out = append(out, foreignSched(t, n, strings.Repeat("/", 3)), foreignSched(t, n, "a1+1 r2 w3=3/w5=1 a2+1/r4 r1 a6+1/a3+3 q"))
	}
	out = append(out, foreignSched(t, 1, "a1+1 r1"), foreignSched(t, 2, "w1=5 r1/w2=9 a7+1"))
	long := schedOn(longEngine(1000, 500), jobsOf("r5 a5+1 a6+1/a5+1 a9+9 r5/r7 q/w5=5 a6+1 a7+1 a8+1"))
	long.Tx, long.State = []int{0, 2, 0, 3}, []int{0, 1, 3, 1}
	return append(out, long, schedOn(longEngine(1000, 0), mostJobs(4, 6)), schedOn(longEngine(999, 20), mostJobs(3, 2)))
}

// wrongSched has one thing that is not right.
type wrongSched struct {
	why string
	s   impl.Sched
}

// wrongScheds are schedules of which each thing that SchedOk asks does not hold, one at a time.
func wrongScheds(t *testing.T) []wrongSched {
	out := []wrongSched{{"the zero one", impl.Sched{}}}
	add := func(why string, from impl.Sched, change func(s *impl.Sched)) {
		s := deepSched(from)
		change(&s)
		out = append(out, wrongSched{why, s})
	}
	for _, w := range wrongEngines(t) {
		add("the engine: "+w.why, busySched(t), func(s *impl.Sched) { s.E = w.e })
	}
	for _, l := range wrongLocks() {
		add("the locks", midSched(), func(s *impl.Sched) { s.L = l })
	}
	for _, jobs := range wrongJobs() {
		add("the jobs", impl.SchedNew(mostJobs(min(len(jobs), 4), 6)), func(s *impl.Sched) { s.Jobs = jobs })
	}
	add("five jobs", impl.SchedNew(mostJobs(4, 6)), func(s *impl.Sched) {
		s.Jobs, s.At, s.Tx, s.Sum, s.State = mostJobs(5, 6), make([]int, 5), make([]int, 5), make([]int, 5), make([]int, 5)
	})
	add("it is down", impl.SchedNew(mostJobs(4, 6)), func(s *impl.Sched) { s.E.Down = true })
	add("it is down", impl.Rest(midSched()), func(s *impl.Sched) { s.E = impl.Crash(s.E, 5) })
	for _, next := range []int{501, 502, 1000, 1001} {
		add("the next transaction", midSched(), func(s *impl.Sched) { s.E.Next = next })
		add("the next transaction, where nothing is", impl.SchedNew(nil), func(s *impl.Sched) { s.E.Next = next })
	}
	for _, count := range []int{1001, 1002, 4000} {
		add("the records", impl.SchedNew(mostJobs(4, 6)), func(s *impl.Sched) { s.E = longEngine(count, 0) })
	}
	for n := range 5 {
		add("more transactions than jobs", foreignSched(t, n+1, strings.Repeat("/", max(n, 1)-1)), func(s *impl.Sched) {
			s.Jobs, s.At, s.Tx, s.Sum, s.State = s.Jobs[:n], s.At[:n], s.Tx[:n], s.Sum[:n], s.State[:n]
		})
	}
	wrongByLists(t, add)
	wrongByJobs(t, add)
	return out
}

type addSched func(why string, from impl.Sched, change func(s *impl.Sched))

func intLists(s *impl.Sched) []*[]int { return []*[]int{&s.At, &s.Tx, &s.Sum, &s.State} }

func wrongByLists(t *testing.T, add addSched) {
	for n := range 4 {
		for _, from := range []impl.Sched{midSched(), impl.SchedNew(mostJobs(1, 3)), impl.SchedNew(mostJobs(4, 6)), impl.Rest(midSched())} {
			add("one fewer", from, func(s *impl.Sched) { l := intLists(s)[n]; *l = (*l)[:len(*l)-1] })
			add("one more", from, func(s *impl.Sched) { l := intLists(s)[n]; *l = append(*l, 0) })
			add("none", from, func(s *impl.Sched) { *intLists(s)[n] = nil })
		}
		add("one of no job", impl.SchedNew(nil), func(s *impl.Sched) { *intLists(s)[n] = []int{0} })
	}
	add("one job fewer", impl.SchedNew(mostJobs(4, 6)), func(s *impl.Sched) { s.Jobs = s.Jobs[:3] })
	add("one job more", impl.SchedNew(mostJobs(3, 6)), func(s *impl.Sched) { s.Jobs = mostJobs(4, 6) })
}

func wrongByJobs(t *testing.T, add addSched) {
	mid := midSched()
	for i := range 4 {
		for _, at := range []int{-1, len(mid.Jobs[i]) + 1, 7, math.MaxInt64, math.MinInt64} {
			add("how many ops it did", mid, func(s *impl.Sched) { s.At[i] = at })
		}
		for _, sum := range []int{1000001, -1000001, math.MaxInt64, math.MinInt64} {
			add("its sum", mid, func(s *impl.Sched) { s.Sum[i] = sum })
		}
		for _, state := range []int{-1, 5, 6, math.MaxInt64, math.MinInt64} {
			add("its state", mid, func(s *impl.Sched) { s.State[i] = state })
		}
		busy := i >= 2
		for state := impl.JobNew; state <= impl.JobQuit; state++ {
			if (state == impl.JobRuns || state == impl.JobWaits) != busy {
				add("its state, by its transaction", mid, func(s *impl.Sched) { s.State[i] = state })
			}
		}
		for _, tx := range []int{0, -1, 1, 2, 5, 100, math.MaxInt64, math.MinInt64} {
			if busy {
				add("a transaction that is not under way", mid, func(s *impl.Sched) { s.Tx[i] = tx })
			}
		}
		for _, tx := range []int{3, 4} {
			if tx != mid.Tx[i] {
				add("a transaction that is another one's", mid, func(s *impl.Sched) { s.Tx[i] = tx })
				add("a transaction that is under way", foreignSched(t, 4, "///"), func(s *impl.Sched) { s.Tx[i] = tx })
			}
		}
	}
	for _, tx := range []int{1, 2, 5, 99, 1000, math.MaxInt64} {
		for _, state := range []int{impl.JobNew, impl.JobDone, impl.JobQuit} {
			add("two the same", mid, func(s *impl.Sched) { s.Tx[0], s.Tx[1], s.State[0], s.State[1] = tx, tx, state, state })
			add("two the same, far off", impl.Rest(mid), func(s *impl.Sched) { s.Tx[0], s.Tx[3], s.State[0] = tx, tx, state })
		}
	}
	add("two of one that is under way", mid, func(s *impl.Sched) { s.Tx[3] = 3 })
	add("two of one that is under way", busySched(t), func(s *impl.Sched) { s.Tx[0] = 6 })
}

func TestSchedOk(t *testing.T) {
	for i, s := range goodScheds(t) {
		was := deepSched(s)
		if !impl.SchedOk(s) || !plainSchedOk(s) {
			t.Errorf("good schedule %d is right: %+v", i, s)
		}
		if !sameScheds(s, was) {
			t.Errorf("SchedOk made %+v of %+v", s, was)
		}
	}
	for _, w := range wrongScheds(t) {
		was := deepSched(w.s)
		if impl.SchedOk(w.s) || plainSchedOk(w.s) {
			t.Errorf("%s: %+v is not right", w.why, w.s)
		}
		if !sameScheds(w.s, was) {
			t.Errorf("%s: SchedOk made %+v of %+v", w.why, w.s, was)
		}
	}
}

func TestSchedOkAtTheEdges(t *testing.T) {
	for next := 495; next <= 505; next++ {
		s := midSched()
		s.E.Next = next
		if got := impl.SchedOk(s); got != (next <= 500) {
			t.Errorf("the next transaction %d: %v", next, got)
		}
	}
	for count := 995; count <= 1005; count++ {
		if got := impl.SchedOk(schedOn(longEngine(count, 7), mostJobs(2, 2))); got != (count <= 1000) {
			t.Errorf("%d records: %v", count, got)
		}
	}
	for txs := range 6 {
		for jobs := range 5 {
			if got := impl.SchedOk(schedOn(foreignSched(t, txs, "").E, mostJobs(jobs, 2))); got != (txs <= jobs) {
				t.Errorf("%d transactions, %d jobs: %v", txs, jobs, got)
			}
		}
	}
}

func TestPicksRefuse(t *testing.T) {
	for _, w := range wrongScheds(t) {
		for _, i := range []int{-1, 0, 1, 2, 3, 4} {
			if got := checkPick(t, w.s, i); !sameScheds(got, w.s) {
				t.Fatalf("%s: Pick of %d: %+v", w.why, i, got)
			}
		}
		if got := checkPickAll(t, w.s, []int{0, 1, 2, 3, 0, 1, 2, 3}); !sameScheds(got, w.s) {
			t.Fatalf("%s: PickAll: %+v", w.why, got)
		}
		if got := checkRest(t, w.s); !sameScheds(got, w.s) {
			t.Fatalf("%s: Rest: %+v", w.why, got)
		}
	}
	for _, s := range goodScheds(t) {
		for _, i := range []int{-1, -2, len(s.Jobs), len(s.Jobs) + 1, 4, 100, math.MaxInt64, math.MinInt64} {
			if got := checkPick(t, s, i); !sameScheds(got, s) {
				t.Fatalf("Pick of %d of %d jobs: %s", i, len(s.Jobs), schedText(got))
			}
		}
		for i, state := range s.State {
			if got := checkPick(t, s, i); state >= impl.JobDone && !sameScheds(got, s) {
				t.Fatalf("Pick of %d: %s, was %s", i, schedText(got), schedText(s))
			}
		}
	}
}

// What is made by hand is picked by the same words.
func TestPicksOfGoodScheds(t *testing.T) {
	r := &turns{11}
	for _, s := range goodScheds(t) {
		if len(s.Jobs) == 0 {
			continue
		}
		for range 6 {
			list := make([]int, 1+r.below(30))
			for n := range list {
				list[n] = r.below(len(s.Jobs))
			}
			checkPickAll(t, s, list)
			one := s
			for _, i := range list {
				one = checkPick(t, one, i)
			}
			checkRest(t, one)
		}
		checkRest(t, s)
	}
}

func TestPickAllTakesTheFirstHundred(t *testing.T) {
	from := impl.SchedNew(jobsOf("r1 r2/w3=1"))
	for _, none := range []int{-1, 2, math.MaxInt64, math.MinInt64} {
		for count := 97; count <= 103; count++ {
			list := slices.Repeat([]int{none}, count)
			list[count-1] = 1
			want := "N0@0=0 D1@1=0|||1"
			if count > 100 {
				want = "N0@0=0 N0@0=0|||"
			}
			if got := schedText(checkPickAll(t, from, list)); got != want {
				t.Errorf("%d picks: %s", count, got)
			}
		}
		list := slices.Repeat([]int{none}, 102)
		list[98], list[99], list[100], list[101] = 0, 0, 1, 1
		if got := schedText(checkPickAll(t, from, list)); got != "D1@2=0 N0@0=0|||0" {
			t.Errorf("a hundred, and two more: %s", got)
		}
	}
	if got := checkPickAll(t, from, nil); !sameScheds(got, from) {
		t.Errorf("no picks: %s", schedText(got))
	}
	if got := checkPickAll(t, from, make([]int, 5000)); schedText(got) != "D1@2=0 N0@0=0|||0" {
		t.Errorf("5000 picks: %s", schedText(got))
	}
}

func TestRestOfWhatRestsAlready(t *testing.T) {
	for _, s := range []impl.Sched{
		impl.SchedNew(nil), impl.Rest(midSched()), impl.Rest(impl.SchedNew(mostJobs(4, 6))), impl.Serial(mostJobs(4, 6), []int{3, 1, 0, 2}),
		impl.Rest(impl.SchedNew(jobsOf("q/q/q"))), impl.Rest(impl.SchedNew(jobsOf("///"))),
	} {
		if got := checkRest(t, s); !sameScheds(got, s) || !plainResting(s) {
			t.Errorf("%s, was %s", schedText(got), schedText(s))
		}
	}
	if got := checkPick(t, impl.SchedNew(nil), 0); !sameScheds(got, impl.SchedNew(nil)) {
		t.Errorf("of no jobs: %+v", got)
	}
}

// Rest picks 0, 1, .. in turn: who came first has its lock first.
func TestRestInTurn(t *testing.T) {
	for _, x := range []struct{ jobs, want string }{
		{"a1+1 r2/a1+1/r3 r3 r3", "D1@2=0 D2@1=0 D3@3=0|||0 1 2"},
		{"r1 r1 r1/r1/q/r1 r1", "D1@3=0 D2@1=0 Q3@0=0 D4@2=0|||1 3 0"},
		{"a1+1 a2+1/a2+1 a1+1", "D1@2=0 D3@2=0|||0 1"},
		{"r1 a1+1/r1 a1+1/r1 a1+1/r1 a1+1", "D1@2=0 D5@2=1 D8@2=2 D10@2=3|||0 1 2 3"},
	} {
		if got := schedText(checkRest(t, impl.SchedNew(jobsOf(x.jobs)))); got != x.want {
			t.Errorf("%q: %s, want %s", x.jobs, got, x.want)
		}
	}
}

func TestSerialForms(t *testing.T) {
	const jobs = "a1+2 a2+5/a2+7 r1/w9=3 q/"
	for _, x := range []struct {
		order []int
		want  string
	}{
		{nil, "N0@0=0 N0@0=0 N0@0=0 N0@0=0|||"},
		{[]int{0, 1, 2, 3}, "D1@2=0 D2@2=2 Q3@1=0 D4@0=0|||0 1 3"},
		{[]int{3, 2, 1, 0}, "D4@2=0 D3@2=0 Q2@1=0 D1@0=0|||3 1 0"},
		{[]int{1}, "N0@0=0 D1@2=0 N0@0=0 N0@0=0|||1"},
		{[]int{1, 1, 0, 1, 0}, "D2@2=0 D1@2=0 N0@0=0 N0@0=0|||1 0"},
		{[]int{2, 2, 2}, "N0@0=0 N0@0=0 Q1@1=0 N0@0=0|||"},
		{[]int{-1, 4, 99, math.MaxInt64, math.MinInt64}, "N0@0=0 N0@0=0 N0@0=0 N0@0=0|||"},
		{[]int{4, 0, -1, 1, 7}, "D1@2=0 D2@2=2 N0@0=0 N0@0=0|||0 1"},
		{slices.Repeat([]int{0, 9, 3}, 500), "D1@2=0 N0@0=0 N0@0=0 D2@0=0|||0 3"},
	} {
		if got := schedText(checkSerial(t, jobsOf(jobs), x.order)); got != x.want {
			t.Errorf("%v: %s, want %s", x.order, got, x.want)
		}
	}
	if got := checkSerial(t, nil, []int{0, 1}); !sameScheds(got, impl.SchedNew(nil)) {
		t.Errorf("of no jobs: %+v", got)
	}
	long := checkSerial(t, mostJobs(4, 6), []int{2, 0, 3, 1})
	if !slices.Equal(long.Order, []int{2, 0, 3, 1}) || !plainResting(long) {
		t.Errorf("of the most jobs: %s", schedText(long))
	}
	checkAtRest(t, long, make([]impl.Slot, impl.MaxOid+1))
}

// Locks are had by Txs up to 99: whose Tx is beyond is told LockForm, and neither has nor waits. What needs no lock is done all the same.
func TestJobsWithoutLocks(t *testing.T) {
	for next := 95; next <= 105; next++ {
		s := schedOn(impl.Engine{Next: next}, jobsOf("a1+1 r2/a1+1 q//q"))
		s = checkPickAll(t, s, []int{3, 2, 1, 0, 1, 0})
		want := map[bool]string{true: "done", false: "not"}[next+3 <= 99]
		got := "not"
		if s.At[0] > 0 || s.State[0] == impl.JobWaits {
			got = "done"
		}
		if got != want || s.State[3] != impl.JobQuit || s.State[2] != impl.JobDone || s.Tx[0] != next+3 {
			t.Errorf("from %d on: %s", next, schedText(s))
		}
		rested := checkRest(t, s)
		if all := plainResting(rested); all != (next+3 <= 99) {
			t.Errorf("from %d on: %s", next, schedText(rested))
		}
	}
	s := schedOn(impl.Engine{Next: 500}, jobsOf("a1+1 r2/r1/r1/r1"))
	if got := schedText(checkRest(t, s)); got != "R500@0=0 R501@0=0 R502@0=0 R503@0=0|||" {
		t.Errorf("%s", got)
	}
}

// Whether a schedule is right is asked once: it may come to have more records, transactions or a greater Next than one that is handed in.
func TestWhatIsRightIsAskedAtTheBeginning(t *testing.T) {
	jobs := jobsOf("a1+1 a2+1 a3+1/a4+1 a5+1/a6+1/r7")
	long := schedOn(longEngine(999, 0), jobs)
	late := schedOn(impl.Engine{Next: 500}, jobsOf("///q"))
	foreign := foreignSched(t, 4, "a9+1 r5/a10+1 r6/r7/r8")
	for _, x := range []struct {
		s             impl.Sched
		atOnce, alone string
	}{
		{long, "D4@3=0 D5@2=0 D6@1=0 D7@1=0|||2 3 1 0", "R4@1=0 R5@1=0 N0@0=0 N0@0=0|4.1X 5.4X||"},
		{late, "D500@0=0 D501@0=0 D502@0=0 Q503@0=0|||0 1 2", "D500@0=0 N0@0=0 N0@0=0 N0@0=0|||0"},
		{foreign, "D5@2=0 D6@2=0 D7@1=0 D8@1=0|||0 1 2 3", "R5@1=0 N0@0=0 N0@0=0 N0@0=0|5.9X||"},
	} {
		if got := schedText(checkRest(t, x.s)); got != x.atOnce {
			t.Errorf("at once: %s, want %s", got, x.atOnce)
		}
		s := x.s
		for n := range 60 {
			s = checkPick(t, s, n%4)
		}
		if got := schedText(s); got != x.alone || impl.SchedOk(s) {
			t.Errorf("one by one: %s, want %s", got, x.alone)
		}
	}
}

// A transaction that is no job's has its object held, whatever the locks tell: an op that writes it is done, but changes nothing.
func TestObjectsThatOthersHold(t *testing.T) {
	s := foreignSched(t, 2, "w1=9 r1/a2+9 r2")
	s = checkPickAll(t, s, []int{0, 1, 0, 1})
	if got := schedText(s); got != "D3@2=1 D4@2=2|||0 1" || !sameSlot(plainLook(s.E, 1), numbered(1)) || !sameSlot(plainLook(s.E, 2), numbered(2)) || len(s.E.Holds) != 2 {
		t.Errorf("%s: %v", got, viewOf(s.E)[:4])
	}
}

// Locks made by hand may have circles of which no job is: they stay, and a pick ends all the same.
func TestCirclesOfNoJob(t *testing.T) {
	for _, x := range []struct{ locks, want string }{
		{"90.1X 91.2X|90.2X 91.1X", "W1@0=0 N0@0=0|90.1X 91.2X|90.2X 91.1X 1.1X|"},
		{"90.1S 91.1S|90.1X 91.1X", "W1@0=0 N0@0=0|90.1S 91.1S|90.1X 91.1X 1.1X|"},
		{"90.1X|", "W1@0=0 N0@0=0|90.1X|1.1X|"},
		{"90.1X|90.7X", "W1@0=0 N0@0=0|90.1X|90.7X 1.1X|"},
	} {
		s := impl.SchedNew(jobsOf("a1+1 a2+1/a2+1 a1+1"))
		s.L = locks(x.locks)
		got := checkPick(t, s, 0)
		if schedText(got) != x.want {
			t.Errorf("%q: %s, want %s", x.locks, schedText(got), x.want)
		}
		checkRest(t, s)
	}
	// A Tx that is a job's no longer, but has locks: the job begins anew.
	s := impl.PickAll(impl.SchedNew(jobsOf("r5/a1+1 a2+1/r7 r1")), []int{0, 1, 2})
	s.L = locks("1.2X 2.1X|1.1S")
	if got := schedText(checkPick(t, s, 1)); got != "D1@1=0 N0@0=0 R3@1=0|1.2X 1.1S||0" {
		t.Errorf("an earlier one: %s", got)
	}
	s.Tx[0], s.L, s.E.Next = 50, locks("50.2X 2.1X|50.1S"), 60
	if got := schedText(checkPick(t, s, 1)); got != "N0@0=0 W2@1=0 R3@1=0|2.1X 2.2X||0" {
		t.Errorf("a later one: %s", got)
	}
}

// anyJobs are jobs by chance over so many objects, which lie in several pages.
func anyJobs(r *turns, objects int) [][]impl.Op {
	jobs := make([][]impl.Op, []int{1, 2, 3, 3, 4, 4, 4}[r.below(7)])
	for i := range jobs {
		for range []int{0, 1, 2, 3, 4, 5, 5, 6, 6, 6}[r.below(10)] {
			op := impl.Op{Kind: []int{1, 1, 1, 2, 3, 3, 3}[r.below(7)], Oid: 1 + 5*r.below(objects), N: r.below(40) - 20}
			if r.below(25) == 0 {
				op = impl.Op{Kind: impl.OpQuit}
			}
			jobs[i] = append(jobs[i], op)
		}
	}
	return jobs
}

// What the promise says, of many jobs, picked in many orders.
func TestJobsAtRestAreAsOneAfterTheOther(t *testing.T) {
	r := &turns{5}
	undone, several, quit, orders := 0, 0, 0, map[string]int{}
	for range 1500 {
		s := impl.SchedNew(anyJobs(r, 2+r.below(4)))
		picks := r.below(50)
		for range picks {
			i := r.below(len(s.Jobs)+1) - r.below(2)
			model := deepSched(s)
			if again := plainStep(&model, i); len(again) > 0 {
				undone++
				several += min(len(again)-1, 1)
			}
			s = checkPick(t, s, i)
			if !impl.SchedOk(s) {
				t.Fatalf("not right: %s", schedText(s))
			}
			checkLogAhead(t, s.E)
		}
		s = checkRest(t, s)
		checkAtRest(t, s, make([]impl.Slot, impl.MaxOid+1))
		checkAsSerial(t, s)
		orders[fmt.Sprint(s.Order)]++
		if slices.Contains(s.State, impl.JobQuit) {
			quit++
		}
	}
	if undone < 200 || several < 40 || quit < 100 || len(orders) < 40 {
		t.Errorf("too few: %d undone, %d several at once, %d with quits, %d orders", undone, several, quit, len(orders))
	}
}

// The same on engines in which objects lie already.
func TestJobsAtRestWhereObjectsWere(t *testing.T) {
	r := &turns{9}
	for range 300 {
		m := engineOf(t, begin())
		for oid := 1; oid <= 26; oid += 5 {
			slots := append(sampleSlots(), numbered(1000000), numbered(-1000000), numbered(999990))
			m = m.then(set(1, oid, slots[r.below(len(slots))]))
		}
		m = m.then(commit(1), flush(r.below(8)))
		s := schedOn(m.e, anyJobs(r, 6))
		for range r.below(30) {
			s = checkPick(t, s, r.below(len(s.Jobs)))
		}
		checkAtRest(t, checkRest(t, s), viewOf(m.e))
	}
}

// schedStates are all schedules that come of these jobs by whatever picks.
func schedStates(t *testing.T, jobs [][]impl.Op) []impl.Sched {
	seen := map[string]bool{}
	var states []impl.Sched
	add := func(s impl.Sched) {
		if key := fmt.Sprint(schedText(s), s.E.Next, viewOf(s.E)); !seen[key] {
			seen[key] = true
			states = append(states, s)
		}
	}
	add(impl.SchedNew(jobs))
	for n := 0; n < len(states); n++ {
		for i := range jobs {
			add(checkPick(t, states[n], i))
		}
	}
	return states
}

func TestEveryWayOfFewJobs(t *testing.T) {
	for _, x := range []struct {
		jobs          string
		least, orders int
	}{
		{"", 2, 1},
		{"r1 a1+1 q", 4, 1},
		{"a1+1/a1+2", 4, 2},
		{"a1+1 a2+1/a2+2 a1+2", 14, 2},
		{"r1 a1+1/r1 a1+2", 10, 2},
		{"r1 a1+1 r2/r1 r2 a1+2", 20, 2},
		{"r1 w2=5/r2 w1=7", 12, 2},
		{"w1=3 q/r1 a1+1", 10, 1},
		{"a1+1 a2+1 q/a2+1 r1", 15, 1},
		{"a1+1 a2+1/r2 r1/r2 r1", 80, 6},
		{"a1+1 a2+1/a2+2 a3+2/a3+3 a1+3", 80, 6},
		{"r1 a1+1/r1 a1+2/r1 a1+3", 80, 6},
		{"a1+1 a2+1/r1 r2/q/a2+5", 80, 6},
	} {
		rests := map[string]int{}
		states := schedStates(t, jobsOf(x.jobs))
		for _, s := range states {
			if !impl.SchedOk(s) {
				t.Fatalf("%q: not right: %s", x.jobs, schedText(s))
			}
			rested := checkRest(t, s)
			checkAtRest(t, rested, make([]impl.Slot, impl.MaxOid+1))
			checkAsSerial(t, rested)
			rests[fmt.Sprint(rested.Order)]++
		}
		if len(states) < x.least || len(rests) != x.orders {
			t.Errorf("%q: %d states, ends %v", x.jobs, len(states), rests)
		}
	}
}

// Each of all short jobs of two, in each order of their first picks.
func TestEveryPairOfShortJobs(t *testing.T) {
	words := []string{"r1", "r2", "a1+1", "a2+1", "w1=5", "q"}
	for n := range len(words) * len(words) * len(words) * len(words) {
		var w [4]string
		for i := range w {
			w[i] = words[n%len(words)]
			n /= len(words)
		}
		jobs := jobsOf(w[0] + " " + w[1] + "/" + w[2] + " " + w[3])
		for order := range 16 {
			s := checkPickAll(t, impl.SchedNew(jobs), []int{order & 1, order >> 1 & 1, order >> 2 & 1, order >> 3})
			s = impl.Rest(s)
			checkAtRest(t, s, make([]impl.Slot, impl.MaxOid+1))
		}
	}
}

// mutateSched turns one thing of a schedule into something near it.
func mutateSched(r *turns, s *impl.Sched) {
	n := r.below(8) - 1
	lists := append(intLists(s), &s.Order)
	list := lists[r.below(5)]
	switch r.below(10) {
	case 0:
		mutate(r, &s.E)
	case 1:
		s.L = chanceLocks(r)
	case 2:
		s.Jobs = anyJobs(r, 4)
	case 3:
		*list = append(*list, n)
	case 4:
		*list = (*list)[:max(0, len(*list)-1)]
	case 5:
		s.E.Next = []int{1, 5, 7, 98, 99, 499, 500, 501}[n+1]
	default:
		if len(*list) > 0 {
			(*list)[r.below(len(*list))] = n
		}
	}
}

func TestPicksOfManyScheds(t *testing.T) {
	r := &turns{21}
	good := goodScheds(t)
	good = slices.DeleteFunc(good, func(s impl.Sched) bool { return len(s.E.Log.Recs) > 100 })
	found := map[bool]int{}
	for range 5000 {
		s := deepSched(good[r.below(len(good))])
		for range 1 + r.below(4) {
			mutateSched(r, &s)
		}
		want := plainSchedOk(s)
		if impl.SchedOk(s) != want {
			t.Fatalf("%v, want %v: %+v", !want, want, s)
		}
		found[want]++
		checkPick(t, s, r.below(6)-1)
		checkPickAll(t, s, []int{r.below(4), r.below(4), r.below(4), r.below(4), r.below(4)})
		if r.below(4) == 0 {
			checkRest(t, s)
		}
	}
	if found[true] < 800 || found[false] < 800 {
		t.Errorf("too few: %v", found)
	}
}

// schedRoom is a schedule whose lists, all of them, have something foreign in the room behind their lengths.
func schedRoom() (impl.Sched, func() bool) {
	e, engineKept := engineRoom()
	l, locksKept := locksRoom(2, 2)
	foreign := impl.Op{Kind: 77, Oid: 77, N: 77}
	rooms := deepJobs([][]impl.Op{append(jobsOf("r3 a9+1 r7")[0], foreign), append(jobsOf("w30=1 r3 q")[0], foreign), append(jobsOf("r9 a30+1")[0], foreign), {foreign}})
	ints := [][]int{{0, 1, 0, 77}, {1, 2, 0, 77}, {5, -6, 0, 77}, {1, 1, 0, 77}, {2, 2, 1, 77}}
	roomsWere, intsWere := deepJobs(rooms), slices.Clone(ints)
	for i := range intsWere {
		intsWere[i] = slices.Clone(ints[i])
	}
	s := impl.Sched{E: e, L: l, Jobs: [][]impl.Op{rooms[0][:3], rooms[1][:3], rooms[2][:2], rooms[3]}[:3]}
	s.At, s.Tx, s.Sum, s.State, s.Order = ints[0][:3], ints[1][:3], ints[2][:3], ints[3][:3], ints[4][:3]
	jobs := s.Jobs
	kept := func() bool {
		ok := engineKept() && locksKept() && sameJobs(rooms, roomsWere) && sameJobs(jobs[:4], [][]impl.Op{roomsWere[0][:3], roomsWere[1][:3], roomsWere[2][:2], roomsWere[3]})
		for i := range ints {
			ok = ok && slices.Equal(ints[i], intsWere[i])
		}
		return ok
	}
	return s, kept
}

func scribbleOps(ops []impl.Op) {
	ops = ops[:cap(ops)]
	for i := range ops {
		ops[i] = impl.Op{Kind: -5, Oid: -5, N: -5}
	}
}

// scribbleSched writes over all that hangs at a schedule, and over the room behind each list.
func scribbleSched(s impl.Sched) {
	scribbleEngine(s.E)
	scribbleGrants(s.L.Given)
	scribbleGrants(s.L.Waits)
	for _, ops := range s.Jobs {
		scribbleOps(ops)
	}
	clear(s.Jobs[:cap(s.Jobs)])
	for _, list := range schedInts(s) {
		scribble(list)
	}
}

// schedAnswers calls all that answers a schedule.
func schedAnswers(s impl.Sched, list []int) []impl.Sched {
	out := []impl.Sched{impl.SchedNew(s.Jobs), impl.Serial(s.Jobs, list), impl.PickAll(s, list), impl.Rest(s)}
	for i := -1; i <= len(s.Jobs); i++ {
		out = append(out, impl.Pick(s, i))
	}
	return out
}

func TestSchedArgumentsAreLeft(t *testing.T) {
	s, kept := schedRoom()
	if !impl.SchedOk(s) || !kept() {
		t.Fatalf("the schedule is one: %+v", s)
	}
	wrongTx, wrongAt, wrongEngine, wrongOne := s, s, s, s
	wrongTx.Tx, wrongAt.At, wrongEngine.E.Next, wrongOne.Jobs = s.Tx[:2], s.At[:4], 0, s.Jobs[:4]
	for n, s := range []impl.Sched{s, wrongTx, wrongAt, wrongEngine, wrongOne} {
		for _, picks := range [][]int{{0, 1, 2, 77}, {0, 0, 0, 1, 1, 1, 2, 2, 2, 77}, {2, 1, 0, 2, 1, 0, 1, 2, 77}, {77}} {
			picksWere, list := slices.Clone(picks), picks[:len(picks)-1]
			answers := schedAnswers(s, list)
			impl.SchedOk(s)
			impl.JobsOk(s.Jobs)
			if !kept() || !slices.Equal(picks, picksWere) {
				t.Fatalf("%d: an argument was written into", n)
			}
			for _, a := range answers {
				scribbleSched(a)
			}
			if !kept() || !slices.Equal(picks, picksWere) {
				t.Fatalf("%d: an argument is shared", n)
			}
		}
	}
}

// sharedSched is a schedule whose lists are one another's, as far as may be.
func sharedSched(t *testing.T, list []int) impl.Sched {
	slot := slotOf(7, list, list)
	ops := jobsOf("a1+1 w2=5 r1")[0]
	both := grants("4.1S 5.1S")
	m := engineOf(t, begin(), set(1, 1, slot), set(1, 2, slot), set(1, 6, slot), set(1, 31, slot), check(), commit(1))
	shared := m.e
	for i := range shared.Log.Recs {
		if shared.Log.Recs[i].Kind == impl.RecSet {
			shared.Log.Recs[i].After = slot
		}
	}
	noughts := make([]int, 3)
	return impl.Sched{E: shared, L: impl.Locks{Given: both, Waits: both}, Jobs: [][]impl.Op{ops, ops, ops[:2]}, At: noughts, Tx: noughts, Sum: noughts, State: noughts, Order: noughts}
}

func TestSchedAnswersShareNothing(t *testing.T) {
	list := []int{1, 2, 3}
	right := sharedSched(t, list)
	wrong, wrongOps := right, right
	wrong.E.Next, wrongOps.Jobs = 0, append([][]impl.Op{{{Kind: 9}}}, right.Jobs...)
	if !impl.SchedOk(right) || impl.SchedOk(wrong) || impl.SchedOk(wrongOps) {
		t.Fatalf("the schedule is one: %+v", right)
	}
	for _, s := range []impl.Sched{right, wrong, wrongOps} {
		picks := []int{0, 1, 2, 0, 0, 1, 2}
		for n, want := range schedAnswers(s, picks) {
			checkOwnParts(t, fmt.Sprint("answer ", n), want, func() impl.Sched { return schedAnswers(s, picks)[n] })
		}
	}
	if !slices.Equal(list, []int{1, 2, 3}) || !slices.Equal(right.Tx, []int{0, 0, 0}) {
		t.Errorf("an answer shares memory with an argument: %v, %v", list, right.Tx)
	}
}

// checkOwnParts writes over one list of an answer after the other, and asks that no other list changes with it.
func checkOwnParts(t *testing.T, what string, want impl.Sched, answer func() impl.Sched) {
	t.Helper()
	numbers := func(s impl.Sched) [][]int { return append(engineLists(engAnswer{e: s.E}), schedInts(s)...) }
	given := func(s impl.Sched) [][]impl.Grant { return [][]impl.Grant{s.L.Given, s.L.Waits} }
	lives := func(s impl.Sched) [][]impl.Live { return liveLists(engAnswer{e: s.E}) }
	checkParts(t, what, want, answer, numbers, scribble)
	checkParts(t, what, want, answer, given, scribbleGrants)
	checkParts(t, what, want, answer, lives, func(l []impl.Live) { clear(l[:cap(l)]) })
	checkParts(t, what, want, answer, func(s impl.Sched) [][]impl.Op { return s.Jobs }, scribbleOps)
}

func checkParts[T comparable](t *testing.T, what string, want impl.Sched, answer func() impl.Sched, parts func(impl.Sched) [][]T, scribble func([]T)) {
	t.Helper()
	wanted := parts(want)
	for i := range wanted {
		if cap(wanted[i]) == 0 {
			continue
		}
		got := parts(answer())
		scribble(got[i])
		for j := range got {
			if j != i && !slices.Equal(got[j], wanted[j]) {
				t.Fatalf("%s: list %d changed with list %d", what, j, i)
			}
		}
	}
}

func TestSchedCallsKeepNothing(t *testing.T) {
	s, picks := midSched(), []int{2, 3, 2, 3, 0}
	first := schedAnswers(s, picks)
	for _, w := range wrongScheds(t)[:60] {
		for _, a := range schedAnswers(w.s, picks) {
			scribbleSched(a)
		}
	}
	for range 2 {
		for i, a := range schedAnswers(s, picks) {
			if !sameScheds(a, first[i]) {
				t.Errorf("answer %d: what was called ahead is seen: %+v", i, a)
			}
			scribbleSched(a)
		}
	}
}
