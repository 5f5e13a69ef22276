package impl

import (
	"slices"
	"strconv"
	"strings"
)

// Error codes of all chapters.
const (
	ErrNone = iota
	ErrInvalid
	ErrRange
	ErrLimit
	ErrNotFound
	ErrState
	ErrSyntax
)

// Limits of chapter 1.
const (
	MaxValue = 1000000000000
	MaxPrime = 97
	MaxList  = 60

	maxFactored = 1000000
	maxExponent = 40
)

// Power is described in chapter 1.
type Power struct {
	Prime    int64
	Exponent int64
}

// isValue reports whether n is a value of chapter 1.
func isValue(n int64) bool {
	return -MaxValue <= n && n <= MaxValue
}

// isBasePrime reports whether p is a prime in the sense of the document: one of at most MaxPrime,
// while IsPrime also accepts the greater ones that FactorOf returns.
func isBasePrime(p int64) bool {
	return p <= MaxPrime && IsPrime(p)
}

// IsPrime reports whether n is a prime number in 2..1000000.
func IsPrime(n int64) bool {
	if n < 2 || n > maxFactored {
		return false
	}
	for d := int64(2); d*d <= n; d++ {
		if n%d == 0 {
			return false
		}
	}
	return true
}

// greatestDivisor returns the greatest common divisor of two integers, 0 if both are 0.
func greatestDivisor[T ~int | ~int64](a, b T) T {
	for b != 0 {
		a, b = b, a%b
	}
	if a < 0 {
		return -a
	}
	return a
}

// CommonDivisor returns the greatest integer that divides a and b, 0 if both are 0, and ErrNone.
func CommonDivisor(a int64, b int64) (int64, int64) {
	if !isValue(a) || !isValue(b) {
		return 0, ErrRange
	}
	return greatestDivisor(a, b), ErrNone
}

// Bezout returns integers x and y for which a * x + b * y is the CommonDivisor of a and b, and
// ErrNone: they are found by the division steps that begin with the pairs (a, 1, 0) and (b, 0,
// 1); with q as the quotient of the first numbers of both pairs, rounded towards 0, the pairs (r,
// x, y) and (s, u, v) become (s, u, v) and (r - q * s, x - q * u, y - q * v) as long as s is not
// 0; then x and y are those of the first pair, with both signs changed if r is negative.
func Bezout(a int64, b int64) (int64, int64, int64) {
	if !isValue(a) || !isValue(b) {
		return 0, 0, ErrRange
	}
	r, x, y := a, int64(1), int64(0)
	s, u, v := b, int64(0), int64(1)
	for s != 0 {
		q := r / s
		r, s = s, r-q*s
		x, u = u, x-q*u
		y, v = v, y-q*v
	}
	if r < 0 {
		return -x, -y, ErrNone
	}
	return x, y, ErrNone
}

// FactorOf returns the prime powers whose product is n, for n in 1..1000000, by increasing
// primes, and ErrNone. Errors: ErrRange also if n is not in this range.
func FactorOf(n int64) ([]Power, int64) {
	if n < 1 || n > maxFactored {
		return nil, ErrRange
	}
	var powers []Power
	for d := int64(2); d*d <= n; d++ {
		exponent, rest := divideOut(n, d)
		if exponent > 0 {
			powers = append(powers, Power{d, exponent})
			n = rest
		}
	}
	// What has no divisor up to its root is 1 or a prime.
	if n > 1 {
		powers = append(powers, Power{n, 1})
	}
	return powers, ErrNone
}

// divideOut returns how often d, at least 2, divides n, other than 0, and what then remains of n.
func divideOut(n, d int64) (int64, int64) {
	count := int64(0)
	for n%d == 0 {
		n /= d
		count++
	}
	return count, n
}

// ValuationOf returns how often a prime p divides n, and ErrNone. Errors: ErrInvalid, first, if p
// is no prime; ErrState if n is 0.
func ValuationOf(n int64, p int64) (int64, int64) {
	if !isBasePrime(p) {
		return 0, ErrInvalid
	}
	if !isValue(n) {
		return 0, ErrRange
	}
	if n == 0 {
		return 0, ErrState
	}
	count, _ := divideOut(n, p)
	return count, ErrNone
}

// PowersText returns, for each power, the prime and, if the exponent is not 1, the character ^
// and the exponent, in decimal, the powers separated by asterisks, or 1 for none, and ErrNone.
// Errors, instead of that above: ErrInvalid if the primes are not strictly increasing prime
// numbers in 2..1000000, an exponent is not in 1..40, or list has more than MaxList elements.
func PowersText(list []Power) (string, int64) {
	if !arePowers(list) {
		return "", ErrInvalid
	}
	if len(list) == 0 {
		return "1", ErrNone
	}
	texts := make([]string, len(list))
	for i, power := range list {
		texts[i] = pairText(power.Prime, "^", power.Exponent)
	}
	return strings.Join(texts, "*"), ErrNone
}

// arePowers reports whether list is one that has a PowersText.
func arePowers(list []Power) bool {
	if len(list) > MaxList {
		return false
	}
	last := int64(0)
	for _, power := range list {
		if power.Prime <= last || !IsPrime(power.Prime) {
			return false
		}
		if power.Exponent < 1 || power.Exponent > maxExponent {
			return false
		}
		last = power.Prime
	}
	return true
}

// pairText returns two numbers with a mark between them, or only the first one if the second is 1.
func pairText(a int64, mark string, b int64) string {
	text := strconv.FormatInt(a, 10)
	if b == 1 {
		return text
	}
	return text + mark + strconv.FormatInt(b, 10)
}

// ReadPowers returns the list with the PowersText s, and ErrNone. It returns nil and ErrSyntax if
// there is none.
func ReadPowers(s string) ([]Power, int64) {
	if s == "1" {
		return nil, ErrNone
	}
	var list []Power
	for part := range strings.SplitSeq(s, "*") {
		prime, exponent, ok := readPair(part, "^")
		if !ok || len(list) == MaxList {
			return nil, ErrSyntax
		}
		list = append(list, Power{prime, exponent})
	}
	// The numbers were read leniently (signs, superfluous zeros, an exponent 1 written out), so
	// only the comparison with the text tells whether s is one.
	text, code := PowersText(list)
	if code != ErrNone || text != s {
		return nil, ErrSyntax
	}
	return list, ErrNone
}

// readPair reads what pairText returns, and also numbers that are written in other ways.
func readPair(s, mark string) (int64, int64, bool) {
	first, second, isPair := strings.Cut(s, mark)
	a, err := strconv.ParseInt(first, 10, 64)
	if err != nil {
		return 0, 0, false
	}
	if !isPair {
		return a, 1, true
	}
	b, err := strconv.ParseInt(second, 10, 64)
	if err != nil {
		return 0, 0, false
	}
	return a, b, true
}

// DivisorsOf returns all positive divisors of n, in 1..1000000, strictly increasing, and ErrNone.
// Errors: ErrRange also if n is not in this range; ErrLimit if there are more than MaxList.
func DivisorsOf(n int64) ([]int64, int64) {
	if n < 1 || n > maxFactored {
		return nil, ErrRange
	}
	var divisors []int64
	for d := int64(1); d*d <= n; d++ {
		if n%d != 0 {
			continue
		}
		divisors = append(divisors, d)
		if d*d != n {
			divisors = append(divisors, n/d)
		}
	}
	if len(divisors) > MaxList {
		return nil, ErrLimit
	}
	slices.Sort(divisors)
	return divisors, ErrNone
}
