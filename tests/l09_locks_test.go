package tests

import (
	"fmt"
	"math"
	"slices"
	"strconv"
	"strings"
	"testing"

	"loop.example/g00181/impl"
)

var modeNames = []string{"-", "IS", "IX", "S", "X"}

// locks reads "1.7S 2.7S | 3.7X": what is given (Tx, Res, Mode each), and behind the bar who waits.
func locks(text string) impl.Locks {
	given, waits, _ := strings.Cut(text, "|")
	return impl.Locks{Given: grants(given), Waits: grants(waits)}
}

func grants(text string) []impl.Grant {
	var out []impl.Grant
	for _, word := range strings.Fields(text) {
		tx, rest, _ := strings.Cut(word, ".")
		digits := strings.TrimRight(rest, "ISX")
		g := impl.Grant{Mode: slices.Index(modeNames, rest[len(digits):])}
		var wrong, wrongRes error
		g.Tx, wrong = strconv.Atoi(tx)
		g.Res, wrongRes = strconv.Atoi(digits)
		if wrong != nil || wrongRes != nil || g.Mode < 1 {
			panic("no grant: " + word)
		}
		out = append(out, g)
	}
	return out
}

func sameLocks(a impl.Locks, b impl.Locks) bool {
	return slices.Equal(a.Given, b.Given) && slices.Equal(a.Waits, b.Waits)
}

func cloneLocks(l impl.Locks) impl.Locks {
	return impl.Locks{Given: slices.Clone(l.Given), Waits: slices.Clone(l.Waits)}
}

var wrongModes = []int{0, -1, -4, 5, 6, 8, math.MaxInt64, math.MinInt64}

var wrongLockTxs = []int{0, -1, -99, 100, 101, 1000, math.MaxInt64, math.MinInt64}

var wrongRess = []int{-1, -2, -99, 100, 101, math.MaxInt64, math.MinInt64}

// together are the pairs that go, as the chapter tells them one way round.
var together = []string{"IS IS", "IS IX", "IS S", "IX IX", "S S"}

func plainGoes(a int, b int) bool {
	if a < 1 || a > 4 || b < 1 || b > 4 {
		return false
	}
	return slices.Contains(together, modeNames[a]+" "+modeNames[b]) || slices.Contains(together, modeNames[b]+" "+modeNames[a])
}

// asMuch are the modes that are at least as much as one.
var asMuch = [][]int{{}, {1, 2, 3, 4}, {2, 4}, {3, 4}, {4}}

// plainBoth is the first that is as much as both: X, the last, is more than all, and of IX and S neither is as much as the other.
func plainBoth(a int, b int) int {
	if a < 1 || a > 4 || b < 1 || b > 4 {
		return 0
	}
	for m := 1; m <= 4; m++ {
		if slices.Contains(asMuch[a], m) && slices.Contains(asMuch[b], m) {
			return m
		}
	}
	return 0
}

func plainGrantOk(g impl.Grant) bool {
	return g.Tx > 0 && g.Tx < 100 && g.Res > -1 && g.Res < 100 && g.Mode > 0 && g.Mode < 5
}

func plainLocksOk(l impl.Locks) bool {
	ok := len(l.Given) <= 60 && len(l.Waits) <= 60
	for i, a := range l.Given {
		ok = ok && plainGrantOk(a)
		for j, b := range l.Given {
			if i != j && a.Res == b.Res {
				ok = ok && a.Tx != b.Tx && plainGoes(a.Mode, b.Mode)
			}
		}
	}
	for i, a := range l.Waits {
		ok = ok && plainGrantOk(a)
		for j, b := range l.Waits {
			ok = ok && (i == j || a.Tx != b.Tx)
		}
	}
	return ok
}

// plainWould is where a Tx has something of the Res that it asks for, or -1; the mode it would have; and whether that goes with the others.
func plainWould(given []impl.Grant, g impl.Grant) (int, int, bool) {
	at := slices.IndexFunc(given, func(o impl.Grant) bool { return o.Tx == g.Tx && o.Res == g.Res })
	mode := g.Mode
	if at >= 0 {
		mode = plainBoth(g.Mode, given[at].Mode)
	}
	goes := true
	for i, o := range given {
		if i != at && o.Res == g.Res && !plainGoes(o.Mode, mode) {
			goes = false
		}
	}
	return at, mode, goes
}

func plainWanted(waits []impl.Grant, res int) bool {
	return slices.ContainsFunc(waits, func(w impl.Grant) bool { return w.Res == res })
}

func plainAsk(l impl.Locks, tx int, res int, mode int) (impl.Locks, int) {
	out, g := cloneLocks(l), impl.Grant{Tx: tx, Res: res, Mode: mode}
	if !plainLocksOk(l) || !plainGrantOk(g) || slices.ContainsFunc(l.Waits, func(w impl.Grant) bool { return w.Tx == tx }) {
		return out, 2
	}
	at, would, goes := plainWould(l.Given, g)
	if at >= 0 && goes {
		// Whether that is what it has or more: it stands in the same place.
		out.Given[at].Mode = would
		return out, 0
	}
	if at < 0 && goes && !plainWanted(l.Waits, res) {
		out.Given = append(out.Given, g)
		if len(out.Given) > 60 {
			return l, 2
		}
		return out, 0
	}
	out.Waits = append(out.Waits, g)
	if len(out.Waits) > 60 {
		return l, 2
	}
	return out, 1
}

func plainDrop(l impl.Locks, tx int) (impl.Locks, []int) {
	out, woken := cloneLocks(l), []int{}
	if !plainLocksOk(l) {
		return out, woken
	}
	ofTx := func(g impl.Grant) bool { return g.Tx == tx }
	out.Given, out.Waits = slices.DeleteFunc(out.Given, ofTx), slices.DeleteFunc(out.Waits, ofTx)
	for i := 0; i < len(out.Waits); {
		w := out.Waits[i]
		at, would, goes := plainWould(out.Given, w)
		switch {
		case !goes || plainWanted(out.Waits[:i], w.Res) || at < 0 && len(out.Given) == 60:
			i++
			continue
		case at >= 0:
			out.Given[at].Mode = would
		default:
			out.Given = append(out.Given, w)
		}
		out.Waits = slices.Delete(out.Waits, i, i+1)
		woken = append(woken, w.Tx)
	}
	return out, woken
}

// plainStuck tells from every way between two Txs who comes back.
func plainStuck(l impl.Locks) int {
	if !plainLocksOk(l) {
		return 0
	}
	var way [100][100]bool
	for i, w := range l.Waits {
		_, would, _ := plainWould(l.Given, w)
		for _, g := range l.Given {
			if g.Res == w.Res && g.Tx != w.Tx && !plainGoes(g.Mode, would) {
				way[w.Tx][g.Tx] = true
			}
		}
		for _, ahead := range l.Waits[:i] {
			if ahead.Res == w.Res {
				way[w.Tx][ahead.Tx] = true
			}
		}
	}
	for _, over := range l.Waits {
		for _, from := range l.Waits {
			for to := range 100 {
				if way[from.Tx][over.Tx] && way[over.Tx][to] {
					way[from.Tx][to] = true
				}
			}
		}
	}
	for tx := 99; tx > 0; tx-- {
		if way[tx][tx] {
			return tx
		}
	}
	return 0
}

func checkAsk(t *testing.T, l impl.Locks, tx int, res int, mode int) (impl.Locks, int) {
	t.Helper()
	was := cloneLocks(l)
	got, code := impl.Ask(l, tx, res, mode)
	want, wantCode := plainAsk(was, tx, res, mode)
	if code != wantCode || !sameLocks(got, want) {
		t.Fatalf("Ask of %d, %d, %d in %v: %d, %v; want %d, %v", tx, res, mode, was, code, got, wantCode, want)
	}
	if !sameLocks(l, was) {
		t.Fatalf("Ask of %d, %d, %d made %v of %v", tx, res, mode, l, was)
	}
	return got, code
}

func checkDrop(t *testing.T, l impl.Locks, tx int) (impl.Locks, []int) {
	t.Helper()
	was := cloneLocks(l)
	got, woken := impl.DropAll(l, tx)
	want, wantWoken := plainDrop(was, tx)
	if !slices.Equal(woken, wantWoken) || !sameLocks(got, want) {
		t.Fatalf("DropAll of %d in %v: %v, %v; want %v, %v", tx, was, woken, got, wantWoken, want)
	}
	if !sameLocks(l, was) {
		t.Fatalf("DropAll of %d made %v of %v", tx, l, was)
	}
	return got, woken
}

func checkStuck(t *testing.T, l impl.Locks) int {
	t.Helper()
	was := cloneLocks(l)
	got := impl.Stuck(l)
	if want := plainStuck(was); got != want {
		t.Fatalf("Stuck of %v: %d, want %d", was, got, want)
	}
	if !sameLocks(l, was) {
		t.Fatalf("Stuck made %v of %v", l, was)
	}
	return got
}

// mostGiven are count locks of as many Txs, each with a Res of its own.
func mostGiven(count int) []impl.Grant {
	var out []impl.Grant
	for i := range count {
		out = append(out, impl.Grant{Tx: i + 1, Res: i, Mode: i%4 + 1})
	}
	return out
}

// mostWaits are count Txs, the last ones that there are, that wait for one Res.
func mostWaits(count int, res int) []impl.Grant {
	var out []impl.Grant
	for i := range count {
		out = append(out, impl.Grant{Tx: 99 - i, Res: res, Mode: i%4 + 1})
	}
	return out
}

func sampleLocks() []impl.Locks {
	out := []impl.Locks{
		{},
		locks("1.0IS"), locks("99.99X"), locks("|1.0IS"), locks("|99.99X"),
		locks("1.7S 2.7S | 3.7X 4.7S"),
		locks("1.7S 2.7S | 3.7X 4.7S 1.7X 2.7X"),
		locks("1.0X 2.1X | 1.1X 2.0X"),
		locks("1.0IS 2.0IX 3.0IS 4.0IX | 5.0S 6.0IS 1.0S"),
		locks("1.0X 1.1X 1.2X 1.3S 2.3S 3.3IS | 4.0S 5.0S 6.1IX 7.1IX 8.2IS 9.3IX"),
		locks("3.5S 1.5IS 2.6X | 1.6S 3.6X 4.5IX"),
		locks("1.1X | 1.1S 2.2S 3.2X"),
		{Given: mostGiven(60)}, {Waits: mostWaits(60, 5)}, {Given: mostGiven(60), Waits: mostWaits(60, 0)}, {Given: mostGiven(59), Waits: mostWaits(59, 3)},
	}
	return out
}

// wrongLocks have one thing each that is not right.
func wrongLocks() []impl.Locks {
	out := []impl.Locks{
		{Given: mostGiven(61)}, {Given: mostGiven(62), Waits: mostWaits(3, 7)}, {Waits: mostWaits(61, 5)}, {Given: mostGiven(2), Waits: mostWaits(99, 5)},
		locks("1.1S 1.1S"), locks("1.1S 1.1IS"), locks("1.1X 1.1X"), locks("1.1IX 2.1IS 3.1IS 1.1IX"), locks("4.2S 1.1IS 1.2S 1.1S | 5.1S"),
		locks("|1.1S 1.1S"), locks("|1.1S 1.2S"), locks("|1.1S 2.1S 1.3X"), locks("1.1S | 2.1X 3.1S 4.4S 2.4S"),
		locks("1.1S 2.1X"), locks("1.1X 2.1S"), locks("1.1S 2.1IX"), locks("1.1IX 2.1S"), locks("1.1IS 2.1X"), locks("1.1X 2.1IS"), locks("1.1IX 2.1X"), locks("1.1X 2.1IX"), locks("1.1X 2.1X"),
		locks("1.1IS 2.1IX 3.1S"), locks("1.1S 2.2X 3.1S 4.1IX | 5.1S"),
	}
	for _, l := range []impl.Locks{locks("1.0IS | 2.0X"), locks("1.7S 2.7S 3.8X | 3.7X 4.7S 5.8IS"), {Given: mostGiven(60), Waits: mostWaits(60, 9)}} {
		out = append(out, withWrongGrants(l, func(l impl.Locks) []impl.Grant { return l.Given })...)
		out = append(out, withWrongGrants(l, func(l impl.Locks) []impl.Grant { return l.Waits })...)
	}
	return out
}

// withWrongGrants are these locks with one number wrong, at the first or the last place of one of the lists.
func withWrongGrants(l impl.Locks, list func(impl.Locks) []impl.Grant) []impl.Locks {
	var out []impl.Locks
	for _, at := range []int{0, len(list(l)) - 1} {
		change := func(n int, field func(*impl.Grant) *int) {
			wrong := cloneLocks(l)
			*field(&list(wrong)[at]) = n
			out = append(out, wrong)
		}
		for _, n := range wrongLockTxs {
			change(n, func(g *impl.Grant) *int { return &g.Tx })
		}
		for _, n := range wrongRess {
			change(n, func(g *impl.Grant) *int { return &g.Res })
		}
		for _, n := range wrongModes {
			change(n, func(g *impl.Grant) *int { return &g.Mode })
		}
	}
	return out
}

func TestLockConstants(t *testing.T) {
	modes := []int{impl.LockIS, impl.LockIX, impl.LockS, impl.LockX}
	codes := []int{impl.LockGot, impl.LockWaits, impl.LockForm}
	if !slices.Equal(modes, []int{1, 2, 3, 4}) || !slices.Equal(codes, []int{0, 1, 2}) {
		t.Errorf("modes %v, codes %v", modes, codes)
	}
}

func TestGoesAndBothOfEveryPair(t *testing.T) {
	goes := []string{"yyyn", "yynn", "ynyn", "nnnn"}
	both := [][]int{{1, 2, 3, 4}, {2, 2, 4, 4}, {3, 4, 3, 4}, {4, 4, 4, 4}}
	for a := 1; a <= 4; a++ {
		for b := 1; b <= 4; b++ {
			if got := impl.Goes(a, b); got != (goes[a-1][b-1] == 'y') || got != plainGoes(a, b) {
				t.Errorf("Goes of %d and %d: %v", a, b, got)
			}
			if got := impl.Both(a, b); got != both[a-1][b-1] || got != plainBoth(a, b) {
				t.Errorf("Both of %d and %d: %d", a, b, got)
			}
		}
	}
}

// What both are is as much as each, and no less bars: it goes with just those with which both go.
func TestBothGoesWhereEachGoes(t *testing.T) {
	for a := 1; a <= 4; a++ {
		for b := 1; b <= 4; b++ {
			both := impl.Both(a, b)
			if both != impl.Both(b, a) || impl.Both(both, a) != both || impl.Both(both, b) != both || impl.Goes(a, b) != impl.Goes(b, a) {
				t.Errorf("%d and %d: %d", a, b, both)
			}
			for other := 1; other <= 4; other++ {
				if impl.Goes(both, other) && !(impl.Goes(a, other) && impl.Goes(b, other)) {
					t.Errorf("%d goes with %d, of which it is both, but not each", both, other)
				}
			}
		}
	}
}

func TestModesThatAreNone(t *testing.T) {
	for _, wrong := range wrongModes {
		for _, other := range append([]int{1, 2, 3, 4}, wrongModes...) {
			if impl.Goes(wrong, other) || impl.Goes(other, wrong) {
				t.Errorf("%d and %d go", wrong, other)
			}
			if got, back := impl.Both(wrong, other), impl.Both(other, wrong); got != 0 || back != 0 {
				t.Errorf("both of %d and %d: %d, %d", wrong, other, got, back)
			}
		}
	}
}

func TestLocksOk(t *testing.T) {
	for _, l := range sampleLocks() {
		if !impl.LocksOk(l) {
			t.Errorf("%v are right", l)
		}
	}
	for i, l := range wrongLocks() {
		was := cloneLocks(l)
		if impl.LocksOk(l) || plainLocksOk(l) {
			t.Errorf("wrong locks %d are not right: %v", i, l)
		}
		if !sameLocks(l, was) {
			t.Errorf("LocksOk made %v of %v", l, was)
		}
	}
	if !impl.LocksOk(impl.Locks{Given: []impl.Grant{}, Waits: []impl.Grant{}}) {
		t.Error("empty lists are right")
	}
}

func TestLocksOkAtTheEdges(t *testing.T) {
	check := func(l impl.Locks, want bool) {
		t.Helper()
		if got := impl.LocksOk(l); got != want {
			t.Errorf("%v: %v", l, got)
		}
	}
	for n := -3; n <= 103; n++ {
		for _, x := range []struct {
			g    impl.Grant
			want bool
		}{
			{impl.Grant{Tx: n, Res: 5, Mode: impl.LockS}, n >= 1 && n <= 99},
			{impl.Grant{Tx: 5, Res: n, Mode: impl.LockS}, n >= 0 && n <= 99},
			{impl.Grant{Tx: 5, Res: 5, Mode: n}, n >= 1 && n <= 4},
		} {
			check(impl.Locks{Given: []impl.Grant{x.g}}, x.want)
			check(impl.Locks{Waits: []impl.Grant{x.g}}, x.want)
		}
	}
	for count := range 65 {
		check(impl.Locks{Given: mostGiven(count)}, count <= 60)
		check(impl.Locks{Waits: mostWaits(count, 5)}, count <= 60)
		check(impl.Locks{Given: mostGiven(count), Waits: mostWaits(60, 5)}, count <= 60)
		check(impl.Locks{Given: mostGiven(60), Waits: mostWaits(count, 5)}, count <= 60)
	}
	for a := 1; a <= 4; a++ {
		for b := 1; b <= 4; b++ {
			x, y := impl.Grant{Tx: 1, Res: 1, Mode: a}, impl.Grant{Tx: 2, Res: 1, Mode: b}
			far := append(append([]impl.Grant{x}, grants("3.2X 4.3X")...), y)
			check(impl.Locks{Given: []impl.Grant{x, y}}, plainGoes(a, b))
			check(impl.Locks{Given: far}, plainGoes(a, b))
			check(impl.Locks{Given: []impl.Grant{x, {Tx: 2, Res: 2, Mode: b}}}, true)
			check(impl.Locks{Given: []impl.Grant{x, {Tx: 1, Res: 2, Mode: b}}}, true)
			check(impl.Locks{Given: []impl.Grant{x, {Tx: 1, Res: 1, Mode: b}}}, false)
			// Who waits has nothing yet, so it bars nobody.
			check(impl.Locks{Waits: []impl.Grant{x, y}}, true)
			check(impl.Locks{Given: []impl.Grant{x}, Waits: []impl.Grant{y, {Tx: 1, Res: 1, Mode: b}}}, true)
			check(impl.Locks{Waits: []impl.Grant{x, {Tx: 1, Res: 1, Mode: b}}}, false)
			check(impl.Locks{Waits: []impl.Grant{x, y, {Tx: 1, Res: 2, Mode: b}}}, false)
		}
	}
}

// smallLists are all lists of up to two grants of two Txs and two Ress.
func smallLists() [][]impl.Grant {
	all := []impl.Grant{}
	for n := range 16 {
		all = append(all, impl.Grant{Tx: n%2 + 1, Res: n / 2 % 2, Mode: n/4 + 1})
	}
	out := [][]impl.Grant{nil}
	for _, a := range all {
		out = append(out, []impl.Grant{a})
		for _, b := range all {
			out = append(out, []impl.Grant{a, b})
		}
	}
	return out
}

func TestEveryShortLocks(t *testing.T) {
	lists := smallLists()
	right := 0
	for _, given := range lists {
		for _, waits := range lists {
			l := impl.Locks{Given: given, Waits: waits}
			ok := impl.LocksOk(l)
			if ok != plainLocksOk(l) {
				t.Fatalf("LocksOk of %v: %v", l, ok)
			}
			if !ok {
				continue
			}
			right++
			checkStuck(t, l)
			for tx := range 4 {
				checkDrop(t, l, tx)
			}
			for n := range 24 {
				checkAsk(t, l, n%3+1, n/3%2, n/6+1)
			}
		}
	}
	if right < 5000 {
		t.Errorf("only %d are right", right)
	}
}

func TestAskForms(t *testing.T) {
	for _, x := range []struct {
		ask  string
		from string
		code int
		to   string
	}{
		// Nobody else has anything of it.
		{"1.7IS", "", impl.LockGot, "1.7IS"},
		{"1.0X", "", impl.LockGot, "1.0X"},
		{"99.99X", "1.7X", impl.LockGot, "1.7X 99.99X"},
		{"2.8S", "1.7X | 3.7S", impl.LockGot, "1.7X 2.8S | 3.7S"},
		// It has nothing of it, others do.
		{"2.7S", "1.7S", impl.LockGot, "1.7S 2.7S"},
		{"2.7IX", "1.7IX", impl.LockGot, "1.7IX 2.7IX"},
		{"2.7X", "1.7S", impl.LockWaits, "1.7S | 2.7X"},
		{"2.7IS", "1.7X", impl.LockWaits, "1.7X | 2.7IS"},
		{"3.7S", "1.7IS 2.7IX", impl.LockWaits, "1.7IS 2.7IX | 3.7S"},
		{"3.7IX", "1.7IS 2.7S", impl.LockWaits, "1.7IS 2.7S | 3.7IX"},
		{"3.7IS", "1.7IS 2.7IX 4.8X", impl.LockGot, "1.7IS 2.7IX 4.8X 3.7IS"},
		// It has nothing of it, and somebody waits: for this Res, or for another.
		{"3.7S", "1.7S | 2.7X", impl.LockWaits, "1.7S | 2.7X 3.7S"},
		{"3.7S", "1.7S | 2.8X", impl.LockGot, "1.7S 3.7S | 2.8X"},
		{"3.7IS", "| 2.7IS", impl.LockWaits, "| 2.7IS 3.7IS"},
		{"3.7IS", "3.8X 1.7X | 2.7IS", impl.LockWaits, "3.8X 1.7X | 2.7IS 3.7IS"},
		// What it has, or less: it has just that, whoever waits.
		{"1.7S", "1.7S", impl.LockGot, "1.7S"},
		{"1.7IS", "1.7S 2.7S", impl.LockGot, "1.7S 2.7S"},
		{"2.7IS", "1.7IX 2.7IX | 3.7X", impl.LockGot, "1.7IX 2.7IX | 3.7X"},
		{"1.7S", "1.7X | 2.7X 3.7S", impl.LockGot, "1.7X | 2.7X 3.7S"},
		{"1.7IX", "1.7X", impl.LockGot, "1.7X"},
		{"1.7X", "1.7X 2.8X | 2.7X", impl.LockGot, "1.7X 2.8X | 2.7X"},
		// More than it has, alone: in its place, whoever waits.
		{"1.7X", "1.7S", impl.LockGot, "1.7X"},
		{"2.7S", "1.8X 2.7IS 3.9S", impl.LockGot, "1.8X 2.7S 3.9S"},
		{"1.7X", "2.8S 1.7IS 1.8S | 2.7X 3.7X", impl.LockGot, "2.8S 1.7X 1.8S | 2.7X 3.7X"},
		{"1.7IX", "1.7S", impl.LockGot, "1.7X"},
		{"1.7S", "1.7IX | 3.7S", impl.LockGot, "1.7X | 3.7S"},
		// More than it has, with others: if what it would have goes; else it waits for what it asks.
		{"1.7S", "1.7IS 2.7S", impl.LockGot, "1.7S 2.7S"},
		{"1.7S", "1.7IS 2.7IS | 3.7X", impl.LockGot, "1.7S 2.7IS | 3.7X"},
		{"2.7IX", "1.7IX 2.7IS", impl.LockGot, "1.7IX 2.7IX"},
		{"1.7X", "1.7S 2.7S", impl.LockWaits, "1.7S 2.7S | 1.7X"},
		{"1.7IX", "1.7S 2.7IS", impl.LockWaits, "1.7S 2.7IS | 1.7IX"},
		{"1.7S", "1.7IX 2.7IX", impl.LockWaits, "1.7IX 2.7IX | 1.7S"},
		{"1.7S", "1.7IX 2.7IS | 3.7X", impl.LockWaits, "1.7IX 2.7IS | 3.7X 1.7S"},
		{"1.7IX", "1.7IS 2.7S", impl.LockWaits, "1.7IS 2.7S | 1.7IX"},
	} {
		g := grants(x.ask)[0]
		got, code := checkAsk(t, locks(x.from), g.Tx, g.Res, g.Mode)
		if code != x.code || !sameLocks(got, locks(x.to)) {
			t.Errorf("%s in %q: %d, %v; want %d, %q", x.ask, x.from, code, got, x.code, x.to)
		}
		if !impl.LocksOk(got) {
			t.Errorf("%s in %q: %v are not right", x.ask, x.from, got)
		}
	}
}

// Every mode on top of every other, alone and beside another that has something.
func TestAskOfWhoHasSomething(t *testing.T) {
	for has := 1; has <= 4; has++ {
		for mode := 1; mode <= 4; mode++ {
			mine := impl.Grant{Tx: 4, Res: 6, Mode: has}
			grown := impl.Grant{Tx: 4, Res: 6, Mode: plainBoth(has, mode)}
			for _, waits := range [][]impl.Grant{nil, grants("9.6X"), grants("9.6IS 8.6IS"), grants("9.5X")} {
				l := impl.Locks{Given: append(grants("1.5X"), mine), Waits: waits}
				got, code := checkAsk(t, l, 4, 6, mode)
				if want := (impl.Locks{Given: append(grants("1.5X"), grown), Waits: waits}); code != impl.LockGot || !sameLocks(got, want) {
					t.Errorf("alone with %d, asks %d: %d, %v", has, mode, code, got)
				}
			}
			for other := 1; other <= 4; other++ {
				if !plainGoes(has, other) {
					continue
				}
				given := []impl.Grant{mine, {Tx: 7, Res: 6, Mode: other}}
				got, code := checkAsk(t, impl.Locks{Given: given}, 4, 6, mode)
				want, wantCode := impl.Locks{Given: []impl.Grant{grown, given[1]}}, impl.LockGot
				if !plainGoes(grown.Mode, other) {
					want, wantCode = impl.Locks{Given: given, Waits: []impl.Grant{{Tx: 4, Res: 6, Mode: mode}}}, impl.LockWaits
				}
				if code != wantCode || !sameLocks(got, want) {
					t.Errorf("%d beside %d, asks %d: %d, %v", has, other, mode, code, got)
				}
			}
		}
	}
}

// checkForm holds that an ask is refused, with the locks as they were.
func checkForm(t *testing.T, l impl.Locks, tx int, res int, mode int) {
	t.Helper()
	if got, code := checkAsk(t, l, tx, res, mode); code != impl.LockForm || !sameLocks(got, l) {
		t.Errorf("Ask of %d, %d, %d in %v: %d, %v", tx, res, mode, l, code, got)
	}
}

func TestAskRefuses(t *testing.T) {
	for _, l := range wrongLocks() {
		checkForm(t, l, 50, 50, impl.LockS)
		checkForm(t, l, 1, 1, impl.LockS)
		checkForm(t, l, 0, -1, 5)
	}
	for _, l := range sampleLocks() {
		for _, tx := range wrongLockTxs {
			checkForm(t, l, tx, 50, impl.LockS)
		}
		for _, res := range wrongRess {
			checkForm(t, l, 1, res, impl.LockS)
		}
		for _, mode := range wrongModes {
			checkForm(t, l, 1, 0, mode)
		}
		// Who waits is refused, whatever it asks for: what it waits for, what it has, or something else.
		for _, w := range l.Waits {
			for mode := 1; mode <= 4; mode++ {
				checkForm(t, l, w.Tx, w.Res, mode)
				checkForm(t, l, w.Tx, 98, mode)
			}
		}
	}
	l := locks("1.7S 2.7S | 1.7X")
	checkForm(t, l, 1, 7, impl.LockS)
	checkForm(t, l, 1, 7, impl.LockX)
	checkForm(t, l, 1, 8, impl.LockS)
}

func TestAskAtTheEdgesOfItsNumbers(t *testing.T) {
	for n := -2; n <= 102; n++ {
		for _, x := range []struct {
			tx, res, mode int
			want          bool
		}{{n, 5, 3, n >= 1 && n <= 99}, {5, n, 3, n >= 0 && n <= 99}, {5, 5, n, n >= 1 && n <= 4}} {
			got, code := checkAsk(t, impl.Locks{}, x.tx, x.res, x.mode)
			if (code == impl.LockGot) != x.want || len(got.Given) == 1 != x.want {
				t.Errorf("%d, %d, %d: %d, %v", x.tx, x.res, x.mode, code, got)
			}
		}
	}
}

// askedIn holds the code of an ask, and how many are given and wait behind it.
func askedIn(t *testing.T, l impl.Locks, ask string, code int, given int, waits int) impl.Locks {
	t.Helper()
	g := grants(ask)[0]
	got, gotCode := checkAsk(t, l, g.Tx, g.Res, g.Mode)
	if gotCode != code || len(got.Given) != given || len(got.Waits) != waits || !impl.LocksOk(got) {
		t.Fatalf("%s: %d, %d given and %d waits; want %d, %d and %d", ask, gotCode, len(got.Given), len(got.Waits), code, given, waits)
	}
	return got
}

func TestAskWhereSixtyAreGiven(t *testing.T) {
	// Tx 1 has IS of Res 0, 2 IX of 1, 3 S of 2, 4 X of 3, and so on.
	l := askedIn(t, impl.Locks{Given: mostGiven(59)}, "90.70S", impl.LockGot, 60, 0)
	l = askedIn(t, l, "91.71S", impl.LockForm, 60, 0)
	l = askedIn(t, l, "91.0IS", impl.LockForm, 60, 0)
	l = askedIn(t, l, "90.71S", impl.LockForm, 60, 0)
	l = askedIn(t, l, "90.70S", impl.LockGot, 60, 0)
	l = askedIn(t, l, "90.70IS", impl.LockGot, 60, 0)
	l = askedIn(t, l, "90.70X", impl.LockGot, 60, 0)
	l = askedIn(t, l, "1.0X", impl.LockGot, 60, 0)
	l = askedIn(t, l, "91.0IS", impl.LockWaits, 60, 1)
	// It would go with what is had, but must wait: there is room for that.
	l = askedIn(t, l, "92.0IS", impl.LockWaits, 60, 2)
	askedIn(t, l, "93.71S", impl.LockForm, 60, 2)
}

func TestAskWhereSixtyWait(t *testing.T) {
	l := askedIn(t, impl.Locks{Given: grants("1.5S 2.5S 3.6S"), Waits: mostWaits(59, 5)}, "39.5X", impl.LockWaits, 3, 60)
	l = askedIn(t, l, "38.5X", impl.LockForm, 3, 60)
	l = askedIn(t, l, "38.5IS", impl.LockForm, 3, 60)
	l = askedIn(t, l, "1.5X", impl.LockForm, 3, 60)
	l = askedIn(t, l, "1.5S", impl.LockGot, 3, 60)
	l = askedIn(t, l, "3.6X", impl.LockGot, 3, 60)
	l = askedIn(t, l, "38.6X", impl.LockForm, 3, 60)
	l = askedIn(t, l, "38.7X", impl.LockGot, 4, 60)
	askedIn(t, l, "2.8X", impl.LockGot, 5, 60)
	full := impl.Locks{Given: mostGiven(60), Waits: mostWaits(60, 0)}
	// Tx 38 has IX of Res 37, for which nobody waits.
	askedIn(t, full, "38.37X", impl.LockGot, 60, 60)
	askedIn(t, full, "38.99S", impl.LockForm, 60, 60)
	askedIn(t, full, "38.0IS", impl.LockForm, 60, 60)
	askedIn(t, full, "38.36IS", impl.LockForm, 60, 60)
}

func TestDropForms(t *testing.T) {
	for _, x := range []struct {
		tx    int
		from  string
		woken []int
		to    string
	}{
		// Nobody is woken.
		{1, "", nil, ""},
		{1, "1.7S", nil, ""},
		{1, "1.7S 1.8X 2.7S 1.9IS 2.9IX", nil, "2.7S 2.9IX"},
		{1, "1.7S 2.7S 3.8X | 4.7X 5.8S", nil, "2.7S 3.8X | 4.7X 5.8S"},
		// A Tx that has nothing; that only waits; that has and waits.
		{9, "1.7S 2.7S | 3.7X 4.7S", nil, "1.7S 2.7S | 3.7X 4.7S"},
		{3, "1.7S 2.7S | 3.7X", nil, "1.7S 2.7S"},
		{3, "1.7S 2.7S | 3.7X 4.7S", []int{4}, "1.7S 2.7S 4.7S"},
		{4, "1.7S 2.7S | 3.7X 4.7S", nil, "1.7S 2.7S | 3.7X"},
		{1, "1.7S 2.7S | 1.7X", nil, "2.7S"},
		{2, "1.7S 2.7S | 1.7X 2.7X", []int{1}, "1.7X"},
		{1, "1.7S 2.7S | 1.7X 2.7X", []int{2}, "2.7X"},
		{1, "1.8X 2.7X | 1.7S 3.7S 4.8IX", []int{4}, "2.7X 4.8IX | 3.7S"},
		// One is woken.
		{1, "1.7X | 2.7X", []int{2}, "2.7X"},
		{1, "1.7X 3.9S | 2.7X", []int{2}, "3.9S 2.7X"},
		{1, "1.7S 2.7S | 2.7X 3.7S", []int{2}, "2.7X | 3.7S"},
		{1, "2.7IX 1.7IX | 2.7S", []int{2}, "2.7X"},
		{1, "1.7IX 3.7IS 2.7IS 4.8X | 2.7S", []int{2}, "3.7IS 2.7S 4.8X"},
		// Several of one Res; those that go with one another.
		{1, "1.7X | 2.7S 3.7S", []int{2, 3}, "2.7S 3.7S"},
		{1, "1.7X | 4.7S 3.7IS 2.7S", []int{4, 3, 2}, "4.7S 3.7IS 2.7S"},
		{1, "1.7X | 4.7IX 3.7IS 2.7IX 5.7X", []int{4, 3, 2}, "4.7IX 3.7IS 2.7IX | 5.7X"},
		// Several of several Res, in the order in which they wait.
		{1, "1.7X 1.8X | 3.8S 2.7S 4.8S", []int{3, 2, 4}, "3.8S 2.7S 4.8S"},
		{1, "1.7X 1.8X 1.9X | 9.9X 3.8X 2.9X 5.7S 4.8S 6.7S", []int{9, 3, 5, 6}, "9.9X 3.8X 5.7S 6.7S | 2.9X 4.8S"},
		// One stays behind another that waits on for the same Res, though it would go.
		{1, "1.7X | 2.7S 3.7X 4.7S", []int{2}, "2.7S | 3.7X 4.7S"},
		{1, "1.7S 5.7S | 2.7X 3.7S", nil, "5.7S | 2.7X 3.7S"},
		{1, "1.7IX 5.7IX | 2.7S 3.8S 4.7IS", []int{3}, "5.7IX 3.8S | 2.7S 4.7IS"},
		// So does one that has something of it already, even alone.
		{2, "1.7S 2.7S | 3.7X 4.7S 1.7X", nil, "1.7S | 3.7X 4.7S 1.7X"},
		{2, "1.7S 2.7S | 3.7X 1.7X", nil, "1.7S | 3.7X 1.7X"},
		{2, "1.7S 2.7S | 1.7X 3.7X", []int{1}, "1.7X | 3.7X"},
		// What one gets bars those behind it, of another kind and another Res not.
		{1, "1.7X | 2.7IX 3.7S 4.7IX", []int{2}, "2.7IX | 3.7S 4.7IX"},
		{1, "1.7X | 2.7X 3.7X 4.8X", []int{2, 4}, "2.7X 4.8X | 3.7X"},
	} {
		from := locks(x.from)
		if !plainLocksOk(from) {
			t.Fatalf("%q are not right", x.from)
		}
		got, woken := checkDrop(t, from, x.tx)
		if !slices.Equal(woken, x.woken) || !sameLocks(got, locks(x.to)) || !impl.LocksOk(got) {
			t.Errorf("DropAll of %d in %q: %v, %v; want %v, %q", x.tx, x.from, woken, got, x.woken, x.to)
		}
	}
}

// Who waits needs no drop of another to be looked at: a Tx that has nothing lets those go on that may.
func TestDropLooksAtAllWhoWait(t *testing.T) {
	for _, tx := range append([]int{9, 99}, wrongLockTxs...) {
		got, woken := checkDrop(t, locks("1.7S | 2.7S 3.7X 4.8X 5.7S 1.9S"), tx)
		if !slices.Equal(woken, []int{2, 4, 1}) || !sameLocks(got, locks("1.7S 2.7S 4.8X 1.9S | 3.7X 5.7S")) {
			t.Errorf("%d: %v, %v", tx, woken, got)
		}
	}
}

func TestDropOfLocksThatAreNone(t *testing.T) {
	for _, l := range wrongLocks() {
		for _, tx := range append([]int{1, 2, 3, 4, 50, 99}, wrongLockTxs...) {
			if got, woken := checkDrop(t, l, tx); len(woken) != 0 || !sameLocks(got, l) {
				t.Errorf("DropAll of %d in %v: %v, %v", tx, l, woken, got)
			}
		}
	}
}

// Given has room for sixty: who would be one more waits on, and so do those behind it for the same Res, until there is room.
func TestDropWhereSixtyAreGiven(t *testing.T) {
	given := append(grants("98.99X"), mostGiven(59)...)
	l := impl.Locks{Given: given, Waits: grants("90.99S 91.99S 92.99IS 1.0X 93.98IS")}
	got, woken := checkDrop(t, l, 98)
	want := impl.Locks{Given: append(mostGiven(59), grants("90.99S")...), Waits: grants("91.99S 92.99IS 93.98IS")}
	want.Given[0].Mode = impl.LockX
	if !slices.Equal(woken, []int{90, 1}) || !sameLocks(got, want) || !impl.LocksOk(got) {
		t.Errorf("%v, %v", woken, got)
	}
	got, woken = checkDrop(t, got, 90)
	if !slices.Equal(woken, []int{91}) || len(got.Given) != 60 || !impl.LocksOk(got) {
		t.Errorf("one more place: %v, %v", woken, got)
	}
	got, woken = checkDrop(t, got, 5)
	if !slices.Equal(woken, []int{92}) || len(got.Given) != 60 || !slices.Equal(got.Waits, grants("93.98IS")) {
		t.Errorf("and another: %v, %v", woken, got)
	}
	many := impl.Locks{Waits: mostWaits(60, 5)}
	for i := range many.Waits {
		many.Waits[i].Res = i
	}
	if got, woken = checkDrop(t, many, 1); len(woken) != 60 || len(got.Given) != 60 || len(got.Waits) != 0 {
		t.Errorf("sixty at once: %v, %v", woken, got)
	}
}

func TestStuckForms(t *testing.T) {
	for _, x := range []struct {
		from string
		want int
	}{
		// No circle.
		{"", 0},
		{"1.7X 2.8X", 0},
		{"1.7X | 2.7X", 0},
		{"1.7X | 2.7X 3.7X 4.7S", 0},
		{"1.7X 2.8X 3.9X | 2.7S 3.8S 4.9S", 0},
		{"1.7S 2.8X | 1.8S 3.7S", 0},
		{"1.7S 2.8S | 1.8S 2.7S", 0},
		// A circle of two, of three, of four.
		{"1.7X 2.8X | 1.8X 2.7X", 2},
		{"1.7X 2.8X | 2.7IS 1.8IS", 2},
		{"1.7S 2.8S | 1.8IX 2.7IX", 2},
		{"5.7X 4.8X 3.9X | 5.8S 4.9S 3.7S", 5},
		{"1.1X 2.2X 3.3X 4.4X | 1.2S 2.3S 3.4S 4.1S", 4},
		// Two circles.
		{"1.1X 2.2X 3.3X 4.4X | 1.2S 2.1S 3.4S 4.3S", 4},
		{"1.1X 9.2X 3.3X 4.4X | 1.2S 9.1S 3.4S 4.3S", 9},
		// One leads into a circle, or is waited for from it, without being of it.
		{"1.7X 2.8X | 1.8X 2.7X 9.7S", 2},
		{"1.7X 2.8X 9.9S | 1.8X 2.7X 99.9X", 2},
		{"1.7X 2.8X 99.9X | 1.8X 9.9S 2.7X 50.7S", 2},
		{"9.8S 1.7X 2.8S | 1.8X 2.7X", 2},
		{"9.6X 9.8S 2.8S 1.7X | 1.8X 2.7X 8.6X", 2},
		// A wait behind another one that waits for the same Res, though the two would go.
		{"1.7X 3.8X | 2.7S 3.7S", 0},
		{"1.7S 3.8X | 2.7X 3.7S 1.8S", 3},
		{"1.7X 4.8X | 2.7IS 4.7IS 1.8IS", 4},
		{"5.7X 4.8X | 4.7IS 9.7IS 5.8IS", 5},
		{"1.9X 5.7S 4.8S | 4.7IX 6.7IS 5.8IX", 5},
		{"1.9X 5.7S 4.8S 6.6X | 4.7IX 6.7IS 5.6S", 6},
		// A Tx that waits to have more of what it has: another has something of it, too.
		{"1.7S 2.7S | 1.7X", 0},
		{"1.7S 2.7S | 1.7X 2.7X", 2},
		{"1.7IX 2.7IX | 1.7S", 0},
		{"1.7IX 2.7IX | 1.7S 2.7S", 2},
		{"1.7S 2.7IS | 1.7IX 2.7IX", 2},
		{"1.7S 2.7S | 3.7X 4.7S 1.7X 2.7X", 4},
		{"1.7S 2.7S | 3.7X 1.7X", 3},
		{"1.7S 2.7S | 1.7X 3.7X", 0},
		{"1.7S 2.7S | 1.7X 9.7S", 0},
		{"1.7S | 3.7X 1.7IX", 3},
		// Alone it waits for nobody but who is ahead.
		{"1.7S | 1.7X", 0},
		{"1.7S 2.8X | 2.7IS 1.7S", 0},
	} {
		from := locks(x.from)
		if !plainLocksOk(from) {
			t.Fatalf("%q are not right", x.from)
		}
		if got := checkStuck(t, from); got != x.want {
			t.Errorf("%q: %d, want %d", x.from, got, x.want)
		}
	}
}

// A circle of all sizes that there may be, with one that leads into it.
func TestStuckInCirclesOfEverySize(t *testing.T) {
	for size := 2; size <= 59; size++ {
		for _, first := range []int{1, 40} {
			l := impl.Locks{}
			for i := range size {
				l.Given = append(l.Given, impl.Grant{Tx: first + i, Res: i, Mode: impl.LockX})
				l.Waits = append(l.Waits, impl.Grant{Tx: first + i, Res: (i + 1) % size, Mode: impl.LockIS})
			}
			last := first + size - 1
			if got := checkStuck(t, l); got != last {
				t.Errorf("%d from %d on: %d", size, first, got)
			}
			if last < 99 {
				l.Waits = append(l.Waits, impl.Grant{Tx: 99, Res: 0, Mode: impl.LockS})
				if got := checkStuck(t, l); got != last {
					t.Errorf("%d from %d on, and one more: %d", size, first, got)
				}
			}
			l.Waits = slices.Delete(l.Waits, size/2, size/2+1)
			if got := checkStuck(t, l); got != 0 {
				t.Errorf("%d from %d on, and one waits no longer: %d", size, first, got)
			}
		}
	}
}

func TestStuckOfLocksThatAreNone(t *testing.T) {
	circle := locks("1.7X 2.8X | 1.8X 2.7X")
	for _, l := range wrongLocks() {
		if got := checkStuck(t, l); got != 0 {
			t.Errorf("%v: %d", l, got)
		}
		if len(l.Given) < 50 && len(l.Waits) < 50 {
			l.Given, l.Waits = append(circle.Given[:2:2], l.Given...), append(circle.Waits[:2:2], l.Waits...)
			if got := impl.Stuck(l); got != 0 {
				t.Errorf("%v: %d", l, got)
			}
		}
	}
}

// checkPromise holds what follows for locks that came of asks and drops alone: what is had goes together, and who waits may not have it.
func checkPromise(t *testing.T, l impl.Locks) {
	t.Helper()
	if !impl.LocksOk(l) {
		t.Fatalf("%v are not right", l)
	}
	for i, a := range l.Given {
		for _, b := range l.Given[:i] {
			if a.Res == b.Res && !plainGoes(a.Mode, b.Mode) {
				t.Fatalf("%v and %v are had at once", b, a)
			}
		}
	}
	for i, w := range l.Waits {
		at, _, goes := plainWould(l.Given, w)
		if goes && !plainWanted(l.Waits[:i], w.Res) && (at >= 0 || len(l.Given) < 60) {
			t.Fatalf("%v waits for nothing in %v", w, l)
		}
	}
}

// checkOrder holds that, of each Res, those who were woken are the first of those who waited for it.
func checkOrder(t *testing.T, was impl.Locks, tx int, got impl.Locks, woken []int) {
	t.Helper()
	last := -1
	for _, w := range woken {
		at := slices.IndexFunc(was.Waits, func(g impl.Grant) bool { return g.Tx == w })
		if at <= last || w == tx {
			t.Fatalf("DropAll of %d in %v woke %v", tx, was, woken)
		}
		last = at
		g := was.Waits[at]
		if has := slices.IndexFunc(got.Given, func(h impl.Grant) bool { return h.Tx == w && h.Res == g.Res }); has < 0 || plainBoth(got.Given[has].Mode, g.Mode) != got.Given[has].Mode {
			t.Fatalf("%d was woken, and does not have %v: %v", w, g, got)
		}
		for _, ahead := range was.Waits[:at] {
			if ahead.Res == g.Res && ahead.Tx != tx && !slices.Contains(woken, ahead.Tx) {
				t.Fatalf("%v got it ahead of %v", g, ahead)
			}
		}
	}
	for _, g := range append(slices.Clone(got.Given), got.Waits...) {
		if g.Tx == tx {
			t.Fatalf("%d has or waits for %v behind its drop", tx, g)
		}
	}
}

// wander asks and drops by chance, and tells how often each answer came.
func wander(t *testing.T, r *turns, steps int, txs int, ress int) (asked [3]int, woken [4]int, stuck int) {
	l := impl.Locks{}
	for range steps {
		tx := r.below(txs) + 1
		if r.below(4) == 0 {
			got, who := checkDrop(t, l, tx)
			checkOrder(t, l, tx, got, who)
			woken[min(len(who), 3)]++
			l = got
		} else {
			got, code := checkAsk(t, l, tx, r.below(ress), r.below(4)+1)
			asked[code]++
			l = got
		}
		checkPromise(t, l)
		if who := checkStuck(t, l); who != 0 {
			stuck++
			if r.below(2) == 0 {
				l, _ = checkDrop(t, l, who)
			}
		}
	}
	return asked, woken, stuck
}

func TestLocksOfManyAsksAndDrops(t *testing.T) {
	r := &turns{1}
	for _, x := range []struct{ txs, ress int }{{3, 1}, {4, 2}, {6, 3}, {9, 5}, {99, 4}, {99, 30}, {40, 90}} {
		asked, woken, stuck := wander(t, r, 4000, x.txs, x.ress)
		if slices.Min(asked[:]) < 20 || woken[0] < 100 || woken[1] < 20 {
			t.Errorf("%v: too few of each: asked %v, woken %v, stuck %d", x, asked, woken, stuck)
		}
		if x.txs < 10 && x.ress > 1 && (stuck < 50 || woken[2] < 10) {
			t.Errorf("%v: too few are stuck or woken: %v, %d", x, woken, stuck)
		}
	}
}

// With asks far more than drops both lists come to their sixty.
func TestLocksThatAreFull(t *testing.T) {
	r := &turns{7}
	l := impl.Locks{}
	given, waits, barred := 0, 0, 0
	for range 6000 {
		if r.below(12) == 0 {
			tx := r.below(99) + 1
			got, woken := checkDrop(t, l, tx)
			checkOrder(t, l, tx, got, woken)
			l = got
		} else {
			l, _ = checkAsk(t, l, r.below(99)+1, r.below(25), []int{1, 1, 1, 2, 3, 4}[r.below(6)])
		}
		checkPromise(t, l)
		checkStuck(t, l)
		given, waits = max(given, len(l.Given)), max(waits, len(l.Waits))
		if len(l.Given) == 60 {
			barred++
		}
	}
	if given != 60 || waits != 60 || barred < 100 {
		t.Errorf("%d given, %d waits at most, %d times full", given, waits, barred)
	}
}

// lockStates are all locks that come of asks and drops of so many Txs over so many Ress, each of them looked at once.
func lockStates(t *testing.T, txs int, ress int) []impl.Locks {
	seen := map[string]bool{"": true}
	states := []impl.Locks{{}}
	add := func(l impl.Locks) {
		key := strings.TrimPrefix(fmt.Sprint(l), "{[] []}")
		if !seen[key] {
			seen[key] = true
			states = append(states, l)
		}
	}
	for i := 0; i < len(states); i++ {
		l := states[i]
		checkPromise(t, l)
		checkStuck(t, l)
		for tx := 1; tx <= txs; tx++ {
			got, woken := checkDrop(t, l, tx)
			checkOrder(t, l, tx, got, woken)
			add(got)
			for n := range 4 * ress {
				got, _ := checkAsk(t, l, tx, n/4, n%4+1)
				add(got)
			}
		}
	}
	return states
}

func TestEveryLocksOfFewTxs(t *testing.T) {
	for _, x := range []struct{ txs, ress, least int }{{1, 2, 20}, {2, 1, 30}, {2, 2, 500}, {3, 1, 300}} {
		if got := len(lockStates(t, x.txs, x.ress)); got < x.least {
			t.Errorf("%v: only %d", x, got)
		}
	}
}

// Where all but one end, one behind the other, the last one gets what it waits for; and where somebody is stuck, it is enough that that one ends.
func TestWhoWaitsGetsWhatItWaitsFor(t *testing.T) {
	for _, l := range lockStates(t, 3, 1) {
		for _, w := range l.Waits {
			n := l
			for tx := 1; tx <= 3; tx++ {
				if tx != w.Tx {
					n, _ = impl.DropAll(n, tx)
				}
			}
			if len(n.Given) != 1 || n.Given[0].Tx != w.Tx || len(n.Waits) != 0 || plainBoth(n.Given[0].Mode, w.Mode) != n.Given[0].Mode {
				t.Fatalf("%v of %v: %v", w, l, n)
			}
		}
		n := l
		for who := impl.Stuck(n); who != 0; who = impl.Stuck(n) {
			left := len(n.Given) + len(n.Waits)
			n, _ = impl.DropAll(n, who)
			if len(n.Given)+len(n.Waits) >= left {
				t.Fatalf("%d is stuck in %v, and its drop left %v", who, l, n)
			}
		}
		if len(n.Waits) > 0 && !slices.ContainsFunc(n.Given, func(g impl.Grant) bool { return !isWaiting(n, g.Tx) }) {
			t.Fatalf("all wait in %v, and nobody is stuck", n)
		}
	}
}

func isWaiting(l impl.Locks, tx int) bool {
	return slices.ContainsFunc(l.Waits, func(w impl.Grant) bool { return w.Tx == tx })
}

// chanceLocks are locks by chance, right for the most part, that no asks and drops need have made.
func chanceLocks(r *turns) impl.Locks {
	l := impl.Locks{}
	txs, ress := r.below(12)+2, r.below(5)+1
	chance := func() impl.Grant {
		return impl.Grant{Tx: r.below(txs) + 1, Res: r.below(ress), Mode: []int{1, 1, 1, 2, 2, 3, 3, 4}[r.below(8)]}
	}
	for range r.below(12) {
		more := impl.Locks{Given: append(slices.Clone(l.Given), chance())}
		if plainLocksOk(more) || r.below(30) == 0 {
			l.Given = more.Given
		}
	}
	for range r.below(10) {
		if w := chance(); !isWaiting(l, w.Tx) || r.below(30) == 0 {
			l.Waits = append(l.Waits, w)
		}
	}
	return l
}

func TestLocksByChance(t *testing.T) {
	r := &turns{3}
	right, stuck := 0, 0
	for range 6000 {
		l := chanceLocks(r)
		ok := impl.LocksOk(l)
		if ok != plainLocksOk(l) {
			t.Fatalf("LocksOk of %v: %v", l, ok)
		}
		if ok {
			right++
		}
		if checkStuck(t, l) != 0 {
			stuck++
		}
		for tx := -1; tx <= 14; tx++ {
			if got, _ := checkDrop(t, l, tx); ok != impl.LocksOk(got) {
				t.Fatalf("DropAll of %d made %v of %v", tx, got, l)
			}
			if got, _ := checkAsk(t, l, tx, r.below(6), r.below(4)+1); ok != impl.LocksOk(got) {
				t.Fatalf("Ask of %d made %v of %v", tx, got, l)
			}
		}
	}
	if right < 3000 || right > 5900 || stuck < 300 {
		t.Errorf("%d right, %d stuck", right, stuck)
	}
}

// locksRoom are locks whose lists have something foreign in the room behind their lengths.
func locksRoom(given int, waits int) (impl.Locks, func() bool) {
	room := [2][]impl.Grant{grants("1.7S 2.7S 3.8X 9.9X 9.9X 9.9X"), grants("4.7X 5.7S 1.8S 8.8X 8.8X 8.8X")}
	was := [2][]impl.Grant{slices.Clone(room[0]), slices.Clone(room[1])}
	kept := func() bool { return slices.Equal(room[0], was[0]) && slices.Equal(room[1], was[1]) }
	return impl.Locks{Given: room[0][:given], Waits: room[1][:waits]}, kept
}

// lockAnswers calls all that answers locks.
func lockAnswers(l impl.Locks, tx int, res int, mode int) ([]impl.Locks, []int) {
	asked, _ := impl.Ask(l, tx, res, mode)
	dropped, woken := impl.DropAll(l, tx)
	return []impl.Locks{asked, dropped}, woken
}

func scribbleGrants(list []impl.Grant) {
	list = list[:cap(list)]
	for i := range list {
		list[i] = impl.Grant{Tx: -77, Res: -77, Mode: -77}
	}
}

func TestLockArgumentsAreLeft(t *testing.T) {
	for n := range 36 {
		// A list of five has two of one Tx and Res at its end, so that wrong locks are asked, too.
		l, kept := locksRoom(n/6, n%6)
		for tx := range 7 {
			for ask := range 4 * 5 {
				answers, woken := lockAnswers(l, tx, ask/4+5, ask%4+1)
				impl.LocksOk(l)
				impl.Stuck(l)
				if !kept() {
					t.Fatalf("%v, Tx %d: an argument was written into", l, tx)
				}
				for _, got := range answers {
					scribbleGrants(got.Given)
					scribbleGrants(got.Waits)
				}
				scribble(woken)
				if !kept() {
					t.Fatalf("%v, Tx %d: an argument is shared", l, tx)
				}
			}
		}
	}
}

func TestLockAnswersShareNothing(t *testing.T) {
	both := grants("1.7S 2.7S 3.8IS")
	for _, l := range []impl.Locks{
		{Given: both, Waits: both}, {Given: both, Waits: both[1:]}, {Given: both[:2], Waits: both}, {Waits: both},
		{Given: both[:0], Waits: both[:0]}, {Given: append(both[:2:2], both[0]), Waits: both},
	} {
		for tx := range 10 {
			for res := 7; res <= 9; res++ {
				want, wantWoken := lockAnswers(l, tx, res, impl.LockX)
				for i := range want {
					got, woken := lockAnswers(l, tx, res, impl.LockX)
					// Room that the lists have left must not be one another's either.
					scribbleGrants(got[i].Given)
					if !slices.Equal(got[i].Waits, want[i].Waits) || !slices.Equal(woken, wantWoken) {
						t.Fatalf("%v, Tx %d: Waits changed with Given", l, tx)
					}
					got, _ = lockAnswers(l, tx, res, impl.LockX)
					scribbleGrants(got[i].Waits)
					if !slices.Equal(got[i].Given, want[i].Given) {
						t.Fatalf("%v, Tx %d: Given changed with Waits", l, tx)
					}
				}
			}
		}
	}
	if !slices.Equal(both, grants("1.7S 2.7S 3.8IS")) {
		t.Errorf("an answer shares memory with an argument: %v", both)
	}
}

func TestLockCallsKeepNothing(t *testing.T) {
	l := locks("1.7X 2.8S 3.8S | 4.7S 5.7S 2.8X 6.8S")
	first, firstWoken := lockAnswers(l, 1, 7, impl.LockS)
	for _, w := range wrongLocks() {
		lockAnswers(w, 1, 7, impl.LockS)
		lockAnswers(l, 2, -1, 9)
	}
	for range 2 {
		again, woken := lockAnswers(l, 1, 7, impl.LockS)
		if !slices.EqualFunc(again, first, sameLocks) || !slices.Equal(woken, firstWoken) {
			t.Errorf("what was called ahead is seen: %v, %v", again, woken)
		}
		for a := 1; a <= 4; a++ {
			for b := 1; b <= 4; b++ {
				if impl.Goes(a, b) != plainGoes(a, b) || impl.Both(a, b) != plainBoth(a, b) {
					t.Errorf("%d and %d are no longer what they were", a, b)
				}
			}
		}
		for _, got := range again {
			scribbleGrants(got.Given)
			scribbleGrants(got.Waits)
		}
		scribble(woken)
	}
}
