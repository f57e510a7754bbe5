package impl

import (
	"slices"
	"strconv"
	"strings"
)

// Error codes of all chapters.
const (
	ErrNone = iota
	ErrInvalid
	ErrRange
	ErrLimit
	ErrNotFound
	ErrState
	ErrSyntax
)

// Constants of chapter 1.
const (
	Prime    = 55441
	MaxShort = 166
	MaxList  = 64
)

const (
	maxPart     = 1000000000
	maxExponent = 1000000

	// units is how many numbers other than 0 there are, and so the order of a primitive one.
	units = Prime - 1

	// leastPrimitive is a constant because no call can change it; a test searches for it anew.
	leastPrimitive number = 38
)

// unitFactors has the prime factors of units, each as often as it divides.
var unitFactors = [9]int64{2, 2, 2, 2, 3, 3, 5, 7, 11}

// number is one of 0..Prime - 1. Its methods rely on this range and do not check it.
type number int64

// remainder returns the number that differs from k by a multiple of Prime, for a negative k too.
func remainder(k int64) number {
	return number((k%Prime + Prime) % Prime)
}

func (a number) plus(b number) number { return (a + b) % Prime }

func (a number) minus(b number) number { return (a - b + Prime) % Prime }

func (a number) times(b number) number { return a * b % Prime }

// over returns the quotient of a and b, which must not be 0.
func (a number) over(b number) number { return a.times(b.power(-1)) }

// power returns the power of a with the exponent k, where a is not 0 if k is negative.
func (a number) power(k int64) number {
	if k < 0 {
		// Exponents that differ by a multiple of units give the same power.
		k = k%units + units
	}
	result := number(1)
	for square := a; k > 0; k /= 2 {
		if k%2 == 1 {
			result = result.times(square)
		}
		square = square.times(square)
	}
	return result
}

// order returns the order of a, which must not be 0.
func (a number) order() int64 {
	order := int64(units)
	for _, p := range unitFactors {
		if a.power(order/p) == 1 {
			order /= p
		}
	}
	return order
}

// logarithm returns the logarithm of a, which must not be 0.
func (a number) logarithm() int64 {
	// In each round k has the right remainder by known, which grows by one prime factor:
	// remainders by m agree exactly if the powers with the exponent units / m do.
	k, known := int64(0), int64(1)
	for _, p := range unitFactors {
		exponent := units / (known * p)
		want := a.power(exponent)
		for try := int64(1); try < p && leastPrimitive.power(k*exponent) != want; try++ {
			k += known
		}
		known *= p
	}
	return k
}

// squareRoot returns the least number whose square is a, and whether there is one.
func (a number) squareRoot() (number, bool) {
	if a == 0 {
		return 0, true
	}
	k := a.logarithm()
	if k%2 == 1 {
		return 0, false
	}
	root := leastPrimitive.power(k / 2)
	return min(root, Prime-root), true
}

// short returns both parts of the short fraction whose number a is, and whether there is one.
func (a number) short() (int64, int64, bool) {
	// The first fraction that is found has no common divisor: dividing by it would have led to
	// one with a lesser q.
	for q := int64(1); q <= MaxShort; q++ {
		p := int64(a.times(number(q)))
		if p > MaxShort {
			p -= Prime
		}
		if p >= -MaxShort {
			return p, q, true
		}
	}
	return 0, 0, false
}

// text returns the text of a.
func (a number) text() string {
	p, q, found := a.short()
	if !found {
		return strconv.FormatInt(int64(a), 10)
	}
	if q == 1 {
		return strconv.FormatInt(p, 10)
	}
	return strconv.FormatInt(p, 10) + "/" + strconv.FormatInt(q, 10)
}

// within reports whether k is one of -limit..limit.
func within(k int64, limit int64) bool {
	return -limit <= k && k <= limit
}

// combine returns what an operation makes of two numbers, and ErrNone.
func combine(a int64, b int64, operation func(number, number) number) (int64, int64) {
	if !IsNumber(a) || !IsNumber(b) {
		return 0, ErrRange
	}
	return int64(operation(number(a), number(b))), ErrNone
}

// areNumbers reports whether all elements of a list are numbers.
func areNumbers(list []int64) bool {
	return !slices.ContainsFunc(list, func(a int64) bool { return !IsNumber(a) })
}

// numbersOf returns a copy of a list of which areNumbers is true.
func numbersOf(list []int64) []number {
	numbers := make([]number, len(list))
	for i, a := range list {
		numbers[i] = number(a)
	}
	return numbers
}

// integersOf returns a copy of a list.
func integersOf(numbers []number) []int64 {
	list := make([]int64, len(numbers))
	for i, a := range numbers {
		list[i] = int64(a)
	}
	return list
}

// dot returns the sum of the products of the numbers with the same indices of two lists, which are
// equally long.
func dot(a []number, b []number) number {
	// The sum is less than 2^63 for lists of less than 2^31 numbers.
	sum := number(0)
	for i := range a {
		sum += a[i] * b[i]
	}
	return sum % Prime
}

// IsNumber reports whether a is a number.
func IsNumber(a int64) bool { return 0 <= a && a < Prime }

// FractionNumber returns the number of the fraction p / q, and ErrNone. Errors: ErrRange if p or q
// is not in its range; ErrState if the remainder of q is 0.
func FractionNumber(p int64, q int64) (int64, int64) {
	if !within(p, maxPart) || !within(q, maxPart) {
		return 0, ErrRange
	}
	return DivideNumbers(int64(remainder(p)), int64(remainder(q)))
}

// AddNumbers returns the sum of two numbers, and ErrNone.
func AddNumbers(a int64, b int64) (int64, int64) { return combine(a, b, number.plus) }

// SubtractNumbers returns the difference of two numbers, and ErrNone.
func SubtractNumbers(a int64, b int64) (int64, int64) { return combine(a, b, number.minus) }

// MultiplyNumbers returns the product of two numbers, and ErrNone.
func MultiplyNumbers(a int64, b int64) (int64, int64) { return combine(a, b, number.times) }

// DivideNumbers returns the quotient of a and b, and ErrNone. Errors: ErrState if b is 0.
func DivideNumbers(a int64, b int64) (int64, int64) {
	if IsNumber(a) && b == 0 {
		return 0, ErrState
	}
	return combine(a, b, number.over)
}

// PowerNumber returns the power of a with the exponent k, in -1000000..1000000, and ErrNone.
// Errors: ErrState if a is 0 and k is negative.
func PowerNumber(a int64, k int64) (int64, int64) {
	if !IsNumber(a) || !within(k, maxExponent) {
		return 0, ErrRange
	}
	if a == 0 && k < 0 {
		return 0, ErrState
	}
	return int64(number(a).power(k)), ErrNone
}

// OrderOfNumber returns the order of a, and ErrNone. Errors: ErrState if a is 0.
func OrderOfNumber(a int64) (int64, int64) {
	if !IsNumber(a) {
		return 0, ErrRange
	}
	if a == 0 {
		return 0, ErrState
	}
	return number(a).order(), ErrNone
}

// PrimitiveNumber returns the least primitive number.
func PrimitiveNumber() int64 { return int64(leastPrimitive) }

// RootOfUnity returns the root of unity of order n, and ErrNone. Errors: ErrRange if n is less
// than 1; ErrState if it is not a divisor of 55440.
func RootOfUnity(n int64) (int64, int64) {
	if n < 1 {
		return 0, ErrRange
	}
	if units%n != 0 {
		return 0, ErrState
	}
	return int64(leastPrimitive.power(units / n)), ErrNone
}

// LogarithmOf returns the logarithm of a, and ErrNone. Errors: ErrState if a is 0.
func LogarithmOf(a int64) (int64, int64) {
	if !IsNumber(a) {
		return 0, ErrRange
	}
	if a == 0 {
		return 0, ErrState
	}
	return number(a).logarithm(), ErrNone
}

// SquareRoot returns the least number whose product with itself is a, and ErrNone. Errors:
// ErrNotFound if there is none.
func SquareRoot(a int64) (int64, int64) {
	if !IsNumber(a) {
		return 0, ErrRange
	}
	root, found := number(a).squareRoot()
	if !found {
		return 0, ErrNotFound
	}
	return int64(root), ErrNone
}

// ShortFraction returns p and q of the short fraction whose number a is, and ErrNone. Errors:
// ErrNotFound if there is none.
func ShortFraction(a int64) (int64, int64, int64) {
	if !IsNumber(a) {
		return 0, 0, ErrRange
	}
	p, q, found := number(a).short()
	if !found {
		return 0, 0, ErrNotFound
	}
	return p, q, ErrNone
}

// NumberText returns the text of a, and ErrNone.
func NumberText(a int64) (string, int64) {
	if !IsNumber(a) {
		return "", ErrRange
	}
	return number(a).text(), ErrNone
}

// ParseNumber returns the number with a text, and ErrNone. Errors: ErrSyntax if no number has it.
// (ErrRange is not returned.)
func ParseNumber(text string) (int64, int64) {
	top, bottom, cut := strings.Cut(text, "/")
	if !cut {
		bottom = "1"
	}
	p, topError := strconv.ParseInt(top, 10, 64)
	q, bottomError := strconv.ParseInt(bottom, 10, 64)
	if topError != nil || bottomError != nil {
		return 0, ErrSyntax
	}
	a, code := FractionNumber(p, q)
	// A number has only one text, so all other ways to write it fail here.
	if code != ErrNone || number(a).text() != text {
		return 0, ErrSyntax
	}
	return a, ErrNone
}

// DotOf returns the sum of the products of the numbers with the same indices of two lists of
// equally many, at most MaxList, numbers, and ErrNone. Errors: ErrRange also if the lists have
// different or greater lengths.
func DotOf(a []int64, b []int64) (int64, int64) {
	if len(a) != len(b) || len(a) > MaxList || !areNumbers(a) || !areNumbers(b) {
		return 0, ErrRange
	}
	return int64(dot(numbersOf(a), numbersOf(b))), ErrNone
}
