package impl

const MaxInt = 1000000000000

const (
	FrameGood = 0
	FrameEnd  = 1
	FrameSum  = 2
	FrameForm = 3
)

const (
	// groupBits are the bits of a number that one byte holds.
	groupBits = 7
	// moreGroups is added to each byte of a number but the last one.
	moreGroups = 128
	// maxGroups is as many groups as any number up to 2 MaxInt needs.
	maxGroups = 6
	// sumBytes is how many bytes the sum behind a frame's body has.
	sumBytes = 4
	// crcTurn is what a sum is turned by when a bit falls out of it.
	crcTurn = 3988292384
)

func PutInt(b []byte, n int) []byte { return putInts(b, n) }

// putInts starts from new memory: b may have spare room behind it that is somebody else's.
func putInts(b []byte, ns ...int) []byte {
	out := make([]byte, 0, len(b)+maxGroups*len(ns))
	out = append(out, b...)
	for _, n := range ns {
		out = appendGroups(out, foldSign(n))
	}
	return out
}

// foldSign keeps numbers near 0 short in bytes, whichever sign they have.
func foldSign(n int) int {
	n = min(max(n, -MaxInt), MaxInt)
	if n >= 0 {
		return 2 * n
	}
	return -2*n - 1
}

func unfoldSign(m int) int {
	if m%2 == 0 {
		return m / 2
	}
	return -(m / 2) - 1
}

func appendGroups(out []byte, m int) []byte {
	for m >= moreGroups {
		out = append(out, byte(m%moreGroups+moreGroups))
		m /= moreGroups
	}
	return append(out, byte(m))
}

func GetInt(b []byte, at int) (int, int, bool) {
	n, next, code := scanInt(b, at)
	return n, next, code == FrameGood
}

// scanInt also tells why there is no number, since a frame that ends early is another thing than a wrong one: FrameEnd only when more bytes could still make one of it, FrameForm else.
func scanInt(b []byte, at int) (int, int, int) {
	if at < 0 || at > len(b) {
		return 0, 0, FrameForm
	}
	size := countGroups(b[at:])
	switch {
	case size > maxGroups:
		return 0, 0, FrameForm
	case size > len(b)-at:
		return 0, 0, FrameEnd
	}
	m, ok := joinGroups(b[at : at+size])
	if !ok {
		return 0, 0, FrameForm
	}
	return unfoldSign(m), at + size, FrameGood
}

// countGroups counts, too, the group that is still to come where b ends: that is what makes too many groups known ahead of their end.
func countGroups(b []byte) int {
	size := 1
	for size <= min(maxGroups, len(b)) && b[size-1] >= moreGroups {
		size++
	}
	return size
}

// joinGroups refuses a last group of several that is 0, so that each number has only one form.
func joinGroups(groups []byte) (int, bool) {
	last := len(groups) - 1
	if last > 0 && groups[last] == 0 {
		return 0, false
	}
	m := 0
	for i, g := range groups {
		m += int(g%moreGroups) << (groupBits * i)
	}
	return m, m <= 2*MaxInt
}

func PutText(b []byte, s string) []byte {
	return appendRunes(putInts(b, len(s)), s)
}

// appendRunes takes each rune's bytes as they stand in s, so that bytes that are no rune stay what they are.
func appendRunes(out []byte, s string) []byte {
	from := 0
	for at := range s {
		out = append(out, s[from:at]...)
		from = at
	}
	return append(out, s[from:]...)
}

func GetText(b []byte, at int) (string, int, bool) {
	size, from, ok := GetInt(b, at)
	if !ok || size < 0 || size > len(b)-from {
		return "", 0, false
	}
	return string(b[from : from+size]), from + size, true
}

func Crc(b []byte) int {
	sum := ^uint32(0)
	for _, c := range b {
		sum = crcByte(sum, c)
	}
	return int(^sum)
}

func crcByte(sum uint32, c byte) uint32 {
	sum ^= uint32(c)
	for range 8 {
		odd := sum%2 == 1
		sum /= 2
		if odd {
			sum ^= crcTurn
		}
	}
	return sum
}

func Frame(body []byte) []byte {
	out := putInts(nil, len(body))
	out = append(out, body...)
	return appendSum(out, Crc(body))
}

func appendSum(out []byte, sum int) []byte {
	for i := range sumBytes {
		out = append(out, byte(sum>>(8*i)))
	}
	return out
}

func readSum(b []byte) int {
	sum := 0
	for i := range sumBytes {
		sum += int(b[i]) << (8 * i)
	}
	return sum
}

func Unframe(b []byte, at int) ([]byte, int, int) {
	size, from, code := scanInt(b, at)
	switch {
	case code != FrameGood:
		return nil, at, code
	case size < 0:
		return nil, at, FrameForm
	case size+sumBytes > len(b)-from:
		return nil, at, FrameEnd
	}
	behind := from + size
	if readSum(b[behind:]) != Crc(b[from:behind]) {
		return nil, at, FrameSum
	}
	return append([]byte{}, b[from:behind]...), behind + sumBytes, FrameGood
}
