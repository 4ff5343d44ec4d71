package impl

import "strconv"

const MaxInt = 1000000000

const (
	groupBits = 7
	moreBit   = 1 << groupBits
	// 2*MaxInt has 31 bits, so no encoding has more groups than this.
	maxGroups = 5
	// maxListed limits the lists that are decoded, so that a forged count allocates little.
	maxListed = 64
	// longestNum is the length of NumText(-MaxInt).
	longestNum = 11
)

func ZigZag(n int) int {
	if !numOk(n) {
		return 0
	}
	if n < 0 {
		return -2*n - 1
	}
	return 2 * n
}

func ZagZig(n int) int {
	if n < 0 || n > 2*MaxInt {
		return 0
	}
	if n%2 == 1 {
		return -(n + 1) / 2
	}
	return n / 2
}

func PutNum(b []byte, n int) []byte {
	if !numOk(n) {
		return ownBytes(b)
	}
	return appendNums(ownBytes(b), n)
}

func GetNum(b []byte, at int) (int, int, bool) {
	if at < 0 || at >= len(b) {
		return 0, 0, false
	}
	u, k := readGroups(b[at:])
	if k == 0 || u > 2*MaxInt {
		return 0, 0, false
	}
	return ZagZig(u), at + k, true
}

func PutNums(b []byte, l []int) []byte {
	if len(l) > MaxInt || !numsOk(l...) {
		return ownBytes(b)
	}
	return appendNums(appendNums(ownBytes(b), len(l)), l...)
}

func GetNums(b []byte, at int) ([]int, int, bool) {
	count, at, ok := GetNum(b, at)
	if !ok || count < 0 || count > maxListed {
		return []int{}, 0, false
	}
	l := make([]int, count)
	for i := range l {
		if l[i], at, ok = GetNum(b, at); !ok {
			return []int{}, 0, false
		}
	}
	return l, at, true
}

func NumText(n int) string {
	return strconv.Itoa(n)
}

func ParseNum(s string) (int, bool) {
	if len(s) > longestNum {
		return 0, false
	}
	n, err := strconv.Atoi(s)
	// Atoi also accepts "+", leading zeros and "-0", which NumText never produces.
	if err != nil || !numOk(n) || NumText(n) != s {
		return 0, false
	}
	return n, true
}

func numOk(n int) bool {
	return n >= -MaxInt && n <= MaxInt
}

func numsOk(l ...int) bool {
	for _, n := range l {
		if !numOk(n) {
			return false
		}
	}
	return true
}

// ownBytes exists because append on a caller's slice would write into its spare capacity.
func ownBytes(b []byte) []byte {
	return append(make([]byte, 0, len(b)+maxGroups), b...)
}

// appendNums may write into b's spare capacity, so b must come from ownBytes.
func appendNums(b []byte, l ...int) []byte {
	for _, n := range l {
		b = appendGroups(b, ZigZag(n))
	}
	return b
}

func appendGroups(b []byte, u int) []byte {
	for u >= moreBit {
		b = append(b, byte(u%moreBit+moreBit))
		u /= moreBit
	}
	return append(b, byte(u))
}

// readGroups returns the integer at the start of b and its number of bytes. That number is 0 for
// truncated bytes and for a zero last group, since one integer must not have two encodings.
func readGroups(b []byte) (int, int) {
	u := 0
	for k, c := range b[:min(len(b), maxGroups)] {
		u += int(c%moreBit) << (groupBits * k)
		if c >= moreBit {
			continue
		}
		if c == 0 && k > 0 {
			return 0, 0
		}
		return u, k + 1
	}
	return 0, 0
}
