package tests

import (
	"math"
	"slices"
	"strconv"
	"strings"
	"testing"

	"loop.example/g01132/impl"
)

const units = impl.Prime - 1

// noNumbers has integers outside 0..Prime - 1, next to it and far from it.
var noNumbers = []int64{-1, impl.Prime, impl.Prime + 1, -impl.Prime, 1 << 32, math.MaxInt64, math.MinInt64}

// someNumbers has the ends of the range, short fractions, and numbers that are none.
var someNumbers = []int64{0, 1, 2, 3, 5, 37, 38, 165, 166, 167, 1000, 27719, 27720, 27721, 40000, 55274, 55275, 55439, 55440}

func checkNumber(t *testing.T, what string, got int64, code int64, want int64, wantCode int64) {
	t.Helper()
	if got != want || code != wantCode {
		t.Errorf("%s = %d, code %d; want %d, code %d", what, got, code, want, wantCode)
	}
}

// call writes a call with integers as its arguments.
func call(name string, arguments ...int64) string {
	texts := []string{}
	for _, a := range arguments {
		texts = append(texts, strconv.FormatInt(a, 10))
	}
	return name + "(" + strings.Join(texts, ", ") + ")"
}

// remainderOf is the remainder by Prime, 0 to Prime - 1 for a negative k too.
func remainderOf(k int64) int64 {
	k %= impl.Prime
	if k < 0 {
		k += impl.Prime
	}
	return k
}

// inverseTable has the inverse of each number but 0, by the rule of the remainders of Prime.
func inverseTable() []int64 {
	table := make([]int64, impl.Prime)
	table[1] = 1
	for a := int64(2); a < impl.Prime; a++ {
		table[a] = remainderOf(-(impl.Prime / a) * table[impl.Prime%a])
	}
	return table
}

// orderByCounting multiplies until 1 comes back; it gives up for 0, and for what is no number.
func orderByCounting(a int64) int64 {
	n := int64(1)
	for x := a; x != 1 && n < impl.Prime; x = x * a % impl.Prime {
		n++
	}
	return n
}

// primitiveByCounting searches for the least primitive number.
func primitiveByCounting() int64 {
	a := int64(1)
	for orderByCounting(a) != units {
		a++
	}
	return a
}

// logarithmTable has the logarithm of each number but 0, and -1 for 0.
func logarithmTable() []int64 {
	table := make([]int64, impl.Prime)
	table[0] = -1
	r := primitiveByCounting()
	x := int64(1)
	for k := range int64(units) {
		table[x] = k
		x = x * r % impl.Prime
	}
	return table
}

func commonDivisor(a int64, b int64) int64 {
	for b != 0 {
		a, b = b, a%b
	}
	return a
}

// shortTable has both parts of the short fraction of each number that has one.
func shortTable(t *testing.T) map[int64][2]int64 {
	inverses := inverseTable()
	table := map[int64][2]int64{}
	for q := int64(1); q <= impl.MaxShort; q++ {
		for p := int64(-impl.MaxShort); p <= impl.MaxShort; p++ {
			if d := commonDivisor(p, q); d != 1 && d != -1 {
				continue
			}
			a := remainderOf(p * inverses[q])
			if old, found := table[a]; found {
				t.Fatalf("%d has the short fractions %v and %d / %d", a, old, p, q)
			}
			table[a] = [2]int64{p, q}
		}
	}
	return table
}

// wantedText writes the text of a number by the table of short fractions.
func wantedText(a int64, table map[int64][2]int64) string {
	short, found := table[a]
	if !found {
		return strconv.FormatInt(a, 10)
	}
	text := strconv.FormatInt(short[0], 10)
	if short[1] != 1 {
		text += "/" + strconv.FormatInt(short[1], 10)
	}
	return text
}

func TestConstantsOfChapter1(t *testing.T) {
	codes := []int64{impl.ErrNone, impl.ErrInvalid, impl.ErrRange, impl.ErrLimit, impl.ErrNotFound, impl.ErrState, impl.ErrSyntax}
	if !slices.Equal(codes, []int64{0, 1, 2, 3, 4, 5, 6}) {
		t.Errorf("codes are %v", codes)
	}
	if impl.Prime != 55441 || impl.MaxShort != 166 || impl.MaxList != 64 {
		t.Errorf("constants are %d, %d, %d", impl.Prime, impl.MaxShort, impl.MaxList)
	}
}

func TestIsNumber(t *testing.T) {
	for a := int64(0); a < impl.Prime; a++ {
		if !impl.IsNumber(a) {
			t.Fatalf("%d should be a number", a)
		}
	}
	for _, a := range noNumbers {
		if impl.IsNumber(a) {
			t.Errorf("%d should not be a number", a)
		}
	}
}

func TestFractionNumber(t *testing.T) {
	inverses := inverseTable()
	parts := []int64{-1000000000, -999999999, -55442, -55440, -2, -1, 1, 2, 3, 166, 55440, 55442, 999999999, 1000000000}
	for _, p := range append([]int64{-55441, 0, 55441, 999992817}, parts...) {
		for _, q := range parts {
			n, code := impl.FractionNumber(p, q)
			want := remainderOf(remainderOf(p) * inverses[remainderOf(q)])
			checkNumber(t, call("FractionNumber", p, q), n, code, want, impl.ErrNone)
		}
	}
	n, code := impl.FractionNumber(-1, 2)
	checkNumber(t, "FractionNumber(-1, 2)", n, code, 27720, impl.ErrNone)
}

func TestFractionNumberErrors(t *testing.T) {
	// 18037 is the greatest number whose product with Prime is still a part.
	zeros := []int64{0, impl.Prime, -impl.Prime, 2 * impl.Prime, 18037 * impl.Prime, -18037 * impl.Prime}
	wide := []int64{1000000001, -1000000001, 18038 * impl.Prime, math.MaxInt64, math.MinInt64}
	for _, q := range zeros {
		for _, p := range []int64{0, 1, -1, impl.Prime, 1000000000, -1000000000} {
			n, code := impl.FractionNumber(p, q)
			checkNumber(t, call("FractionNumber", p, q), n, code, 0, impl.ErrState)
		}
		for _, p := range wide {
			n, code := impl.FractionNumber(p, q)
			checkNumber(t, call("FractionNumber", p, q), n, code, 0, impl.ErrRange)
		}
	}
	for _, q := range wide {
		for _, p := range append([]int64{0, 1, -1}, wide...) {
			n, code := impl.FractionNumber(p, q)
			checkNumber(t, call("FractionNumber", p, q), n, code, 0, impl.ErrRange)
			n, code = impl.FractionNumber(q, 1)
			checkNumber(t, call("FractionNumber", q, 1), n, code, 0, impl.ErrRange)
		}
	}
}

func TestSumsAndProducts(t *testing.T) {
	inverses := inverseTable()
	for _, a := range someNumbers {
		for _, b := range someNumbers {
			n, code := impl.AddNumbers(a, b)
			checkNumber(t, call("AddNumbers", a, b), n, code, remainderOf(a+b), impl.ErrNone)
			n, code = impl.SubtractNumbers(a, b)
			checkNumber(t, call("SubtractNumbers", a, b), n, code, remainderOf(a-b), impl.ErrNone)
			n, code = impl.MultiplyNumbers(a, b)
			checkNumber(t, call("MultiplyNumbers", a, b), n, code, remainderOf(a*b), impl.ErrNone)
			n, code = impl.DivideNumbers(a, b)
			if b == 0 {
				checkNumber(t, call("DivideNumbers", a, b), n, code, 0, impl.ErrState)
			} else {
				checkNumber(t, call("DivideNumbers", a, b), n, code, a*inverses[b]%impl.Prime, impl.ErrNone)
			}
		}
	}
}

func TestQuotientsOfAllNumbers(t *testing.T) {
	inverses := inverseTable()
	for b := int64(1); b < impl.Prime; b++ {
		n, code := impl.DivideNumbers(1, b)
		checkNumber(t, call("DivideNumbers", 1, b), n, code, inverses[b], impl.ErrNone)
	}
}

func TestSumsAndProductsErrors(t *testing.T) {
	operations := map[string]func(int64, int64) (int64, int64){
		"AddNumbers":      impl.AddNumbers,
		"SubtractNumbers": impl.SubtractNumbers,
		"MultiplyNumbers": impl.MultiplyNumbers,
		"DivideNumbers":   impl.DivideNumbers,
	}
	for name, operation := range operations {
		for _, bad := range noNumbers {
			for _, b := range append([]int64{0, 1, 55440}, noNumbers...) {
				n, code := operation(bad, b)
				checkNumber(t, call(name, bad, b), n, code, 0, impl.ErrRange)
				n, code = operation(b, bad)
				checkNumber(t, call(name, b, bad), n, code, 0, impl.ErrRange)
			}
		}
	}
}

func TestPowerNumber(t *testing.T) {
	inverses := inverseTable()
	for _, a := range someNumbers {
		up, down := int64(1), int64(1)
		for k := int64(0); k <= 120000; k++ {
			if k < 70 || k > 55400 && k < 55480 || k > 110860 && k < 110900 {
				n, code := impl.PowerNumber(a, k)
				checkNumber(t, call("PowerNumber", a, k), n, code, up, impl.ErrNone)
				if a != 0 {
					n, code = impl.PowerNumber(a, -k)
					checkNumber(t, call("PowerNumber", a, -k), n, code, down, impl.ErrNone)
				}
			}
			up = up * a % impl.Prime
			down = down * inverses[a] % impl.Prime
		}
	}
}

func TestGreatestExponents(t *testing.T) {
	inverses := inverseTable()
	for _, a := range []int64{1, 2, 38, 55440} {
		up, down := int64(1), int64(1)
		for range 999999 {
			up = up * a % impl.Prime
			down = down * inverses[a] % impl.Prime
		}
		n, code := impl.PowerNumber(a, 999999)
		checkNumber(t, call("PowerNumber", a, 999999), n, code, up, impl.ErrNone)
		n, code = impl.PowerNumber(a, -999999)
		checkNumber(t, call("PowerNumber", a, -999999), n, code, down, impl.ErrNone)
		n, code = impl.PowerNumber(a, 1000000)
		checkNumber(t, call("PowerNumber", a, 1000000), n, code, up*a%impl.Prime, impl.ErrNone)
		n, code = impl.PowerNumber(a, -1000000)
		checkNumber(t, call("PowerNumber", a, -1000000), n, code, down*inverses[a]%impl.Prime, impl.ErrNone)
	}
	n, code := impl.PowerNumber(0, 1000000)
	checkNumber(t, "PowerNumber(0, 1000000)", n, code, 0, impl.ErrNone)
}

func TestPowerNumberErrors(t *testing.T) {
	for _, k := range []int64{-1, -2, -55440, -1000000} {
		n, code := impl.PowerNumber(0, k)
		checkNumber(t, call("PowerNumber", 0, k), n, code, 0, impl.ErrState)
	}
	for _, k := range []int64{-1000001, 1000001, 1 << 40, math.MaxInt64, math.MinInt64} {
		for _, a := range []int64{0, 1, 2, -1, impl.Prime} {
			n, code := impl.PowerNumber(a, k)
			checkNumber(t, call("PowerNumber", a, k), n, code, 0, impl.ErrRange)
		}
	}
	for _, a := range noNumbers {
		for _, k := range []int64{-1000000, -1, 0, 1, 1000000} {
			n, code := impl.PowerNumber(a, k)
			checkNumber(t, call("PowerNumber", a, k), n, code, 0, impl.ErrRange)
		}
	}
}

func TestPrimitiveNumber(t *testing.T) {
	if r, want := impl.PrimitiveNumber(), primitiveByCounting(); r != want {
		t.Errorf("PrimitiveNumber() = %d, want %d", r, want)
	}
}

func TestOrderOfNumber(t *testing.T) {
	// The power of r with the exponent k has the order units / d, for the greatest common
	// divisor d of k and units; the numbers that are counted check this.
	logarithms := logarithmTable()
	for a := int64(1); a < impl.Prime; a++ {
		n, code := impl.OrderOfNumber(a)
		checkNumber(t, call("OrderOfNumber", a), n, code, units/commonDivisor(units, logarithms[a]), impl.ErrNone)
	}
	for _, a := range someNumbers[1:] {
		n, code := impl.OrderOfNumber(a)
		checkNumber(t, call("OrderOfNumber", a), n, code, orderByCounting(a), impl.ErrNone)
	}
	n, code := impl.OrderOfNumber(55440)
	checkNumber(t, "OrderOfNumber(55440)", n, code, 2, impl.ErrNone)
}

func TestRootOfUnity(t *testing.T) {
	found := 0
	r := primitiveByCounting()
	for n := int64(1); n <= units+10; n++ {
		root, code := impl.RootOfUnity(n)
		if units%n != 0 {
			checkNumber(t, call("RootOfUnity", n), root, code, 0, impl.ErrState)
			continue
		}
		found++
		want, _ := impl.PowerNumber(r, units/n)
		checkNumber(t, call("RootOfUnity", n), root, code, want, impl.ErrNone)
		if order := orderByCounting(root); order != n {
			t.Errorf("RootOfUnity(%d) = %d has the order %d", n, root, order)
		}
	}
	// 55440 is 2^4 3^2 5 7 11.
	if found != 120 {
		t.Errorf("%d roots of unity, want 120", found)
	}
	root, code := impl.RootOfUnity(2)
	checkNumber(t, "RootOfUnity(2)", root, code, 55440, impl.ErrNone)
}

func TestRootOfUnityErrors(t *testing.T) {
	for _, n := range []int64{0, -1, -2, -13, -55440, -55441, math.MinInt64} {
		root, code := impl.RootOfUnity(n)
		checkNumber(t, call("RootOfUnity", n), root, code, 0, impl.ErrRange)
	}
	for _, n := range []int64{13, 32, 27, 55439, 55441, 110880, math.MaxInt64} {
		root, code := impl.RootOfUnity(n)
		checkNumber(t, call("RootOfUnity", n), root, code, 0, impl.ErrState)
	}
}

func TestLogarithmOf(t *testing.T) {
	logarithms := logarithmTable()
	r := impl.PrimitiveNumber()
	for a := int64(1); a < impl.Prime; a++ {
		k, code := impl.LogarithmOf(a)
		checkNumber(t, call("LogarithmOf", a), k, code, logarithms[a], impl.ErrNone)
		n, code := impl.PowerNumber(r, k)
		checkNumber(t, call("PowerNumber", r, k), n, code, a, impl.ErrNone)
	}
}

func TestSquareRoot(t *testing.T) {
	roots := map[int64]int64{}
	for a := int64(impl.Prime - 1); a >= 0; a-- {
		roots[a*a%impl.Prime] = a
	}
	for a := int64(0); a < impl.Prime; a++ {
		n, code := impl.SquareRoot(a)
		if want, found := roots[a]; found {
			checkNumber(t, call("SquareRoot", a), n, code, want, impl.ErrNone)
		} else {
			checkNumber(t, call("SquareRoot", a), n, code, 0, impl.ErrNotFound)
		}
	}
	n, code := impl.SquareRoot(4)
	checkNumber(t, "SquareRoot(4)", n, code, 2, impl.ErrNone)
}

func TestErrorsForOneNumber(t *testing.T) {
	functions := map[string]func(int64) (int64, int64){
		"OrderOfNumber": impl.OrderOfNumber,
		"LogarithmOf":   impl.LogarithmOf,
		"SquareRoot":    impl.SquareRoot,
	}
	for name, function := range functions {
		for _, a := range noNumbers {
			n, code := function(a)
			checkNumber(t, call(name, a), n, code, 0, impl.ErrRange)
		}
	}
	n, code := impl.OrderOfNumber(0)
	checkNumber(t, "OrderOfNumber(0)", n, code, 0, impl.ErrState)
	n, code = impl.LogarithmOf(0)
	checkNumber(t, "LogarithmOf(0)", n, code, 0, impl.ErrState)
	for _, a := range noNumbers {
		if p, q, code := impl.ShortFraction(a); p != 0 || q != 0 || code != impl.ErrRange {
			t.Errorf("ShortFraction(%d) = %d, %d, code %d", a, p, q, code)
		}
		if s, code := impl.NumberText(a); s != "" || code != impl.ErrRange {
			t.Errorf("NumberText(%d) = %q, code %d", a, s, code)
		}
	}
}

func TestShortFraction(t *testing.T) {
	table := shortTable(t)
	for a := int64(0); a < impl.Prime; a++ {
		p, q, code := impl.ShortFraction(a)
		wantCode := int64(impl.ErrNone)
		if _, found := table[a]; !found {
			wantCode = impl.ErrNotFound
		}
		if want := table[a]; p != want[0] || q != want[1] || code != wantCode {
			t.Errorf("ShortFraction(%d) = %d, %d, code %d; want %v, code %d", a, p, q, code, want, wantCode)
		}
	}
	for a, want := range map[int64][2]int64{0: {0, 1}, 27720: {-1, 2}, 166: {166, 1}, 55275: {-166, 1}} {
		if p, q, code := impl.ShortFraction(a); p != want[0] || q != want[1] || code != impl.ErrNone {
			t.Errorf("ShortFraction(%d) = %d, %d, code %d", a, p, q, code)
		}
	}
}

func TestTextsAreParsedToTheirNumbers(t *testing.T) {
	table := shortTable(t)
	for a := int64(0); a < impl.Prime; a++ {
		text, code := impl.NumberText(a)
		if want := wantedText(a, table); text != want || code != impl.ErrNone {
			t.Errorf("NumberText(%d) = %q, code %d; want %q", a, text, code, want)
		}
		n, code := impl.ParseNumber(text)
		checkNumber(t, "ParseNumber("+text+")", n, code, a, impl.ErrNone)
	}
	if text, code := impl.NumberText(27720); text != "-1/2" || code != impl.ErrNone {
		t.Errorf("NumberText(27720) = %q, code %d", text, code)
	}
}

func TestFractionsInTexts(t *testing.T) {
	// With one part beyond the limit, or a common divisor, a fraction is not the text of its number.
	for p := int64(-170); p <= 170; p++ {
		for q := int64(1); q <= 170; q++ {
			text := strconv.FormatInt(p, 10) + "/" + strconv.FormatInt(q, 10)
			n, code := impl.ParseNumber(text)
			d := commonDivisor(p, q)
			if q > 1 && q <= impl.MaxShort && p >= -impl.MaxShort && p <= impl.MaxShort && (d == 1 || d == -1) {
				want, _ := impl.FractionNumber(p, q)
				checkNumber(t, "ParseNumber("+text+")", n, code, want, impl.ErrNone)
			} else {
				checkNumber(t, "ParseNumber("+text+")", n, code, 0, impl.ErrSyntax)
			}
		}
	}
}

func TestDecimalTexts(t *testing.T) {
	table := shortTable(t)
	for k := int64(-impl.Prime - 200); k <= 2*impl.Prime; k++ {
		text := strconv.FormatInt(k, 10)
		n, code := impl.ParseNumber(text)
		a := remainderOf(k)
		if wantedText(a, table) == text {
			checkNumber(t, "ParseNumber("+text+")", n, code, a, impl.ErrNone)
		} else {
			checkNumber(t, "ParseNumber("+text+")", n, code, 0, impl.ErrSyntax)
		}
	}
}

func TestParseNumberErrors(t *testing.T) {
	bad := []string{
		"", "-", "+", "/", "--1", "+1", "-+1", "00", "01", "-01", "000", "-0", "+0", " 1", "1 ", "1\n", "\t1", "\x001", "1\x00",
		"0/1", "0/2", "1/1", "2/1", "2/2", "2/4", "-2/4", "166/166", "1/0", "0/0", "-1/0", "1/-2", "-1/-2", "1/+2", "+1/2", "1/02", "01/2", "-01/2", "1/ 2", "1 /2",
		"/2", "1/", "-/2", "1/2/", "1/2/3", "/1/2", "1//2", "1/-", "167/2", "1/167", "-167/2", "-167", "1/55441", "1/55442", "55442/2",
		"27720", "27721", "55440", "55441", "55442", "55275", "110881", "1000000000", "1000000001", "9223372036854775807", "9223372036854775808", "-9223372036854775808",
		"1/9223372036854775807", "18446744073709551617", "1/18446744073709551618", "1.0", "1e2", "0x1", "0b1", "1_0", "a", "\u0661", "\xff", "\uff11", "1/2a", "a1/2",
		strings.Repeat("1", 5000), strings.Repeat("0", 5000), "1/" + strings.Repeat("2", 5000), strings.Repeat("/", 5000),
	}
	for _, text := range bad {
		n, code := impl.ParseNumber(text)
		checkNumber(t, "ParseNumber("+strconv.Quote(text)+")", n, code, 0, impl.ErrSyntax)
	}
}

func TestParseNumberOfShortStrings(t *testing.T) {
	// All strings of at most five of these characters: exactly the texts of numbers are parsed.
	table := shortTable(t)
	numbers := map[string]int64{}
	for a := int64(0); a < impl.Prime; a++ {
		numbers[wantedText(a, table)] = a
	}
	const characters = "-/ 0127+"
	texts := []string{""}
	for range 5 {
		var longer []string
		for _, text := range texts {
			for _, c := range characters {
				longer = append(longer, text+string(c))
			}
		}
		for _, text := range longer {
			n, code := impl.ParseNumber(text)
			if want, found := numbers[text]; found {
				checkNumber(t, "ParseNumber("+text+")", n, code, want, impl.ErrNone)
			} else {
				checkNumber(t, "ParseNumber("+text+")", n, code, 0, impl.ErrSyntax)
			}
		}
		texts = longer
	}
}

func repeated(a int64, count int) []int64 {
	list := make([]int64, count)
	for i := range list {
		list[i] = a
	}
	return list
}

func TestDotOf(t *testing.T) {
	cases := []struct {
		a, b []int64
		want int64
	}{
		{nil, nil, 0},
		{[]int64{}, nil, 0},
		{[]int64{0}, []int64{55440}, 0},
		{[]int64{55440}, []int64{55440}, 1},
		{[]int64{1, 2}, []int64{3, 55440}, 1},
		{[]int64{2, 3, 5}, []int64{7, 11, 13}, 112},
		{repeated(55440, 64), repeated(55440, 64), 64},
		{repeated(27721, 64), repeated(27721, 64), 16},
		{repeated(55440, 64), repeated(1, 64), 55377},
	}
	for _, c := range cases {
		oldA, oldB := slices.Clone(c.a), slices.Clone(c.b)
		n, code := impl.DotOf(c.a, c.b)
		checkNumber(t, "DotOf", n, code, c.want, impl.ErrNone)
		if !slices.Equal(c.a, oldA) || !slices.Equal(c.b, oldB) {
			t.Errorf("DotOf changed its arguments")
		}
	}
}

func TestDotOfLeavesSpareCapacity(t *testing.T) {
	list := []int64{1, 2, 3, 4}
	n, code := impl.DotOf(list[:2], list[1:3])
	checkNumber(t, "DotOf", n, code, 8, impl.ErrNone)
	if !slices.Equal(list, []int64{1, 2, 3, 4}) {
		t.Errorf("DotOf changed its arguments: %v", list)
	}
}

func TestDotOfErrors(t *testing.T) {
	cases := [][2][]int64{
		{nil, {0}},
		{{0}, nil},
		{{1, 2}, {1}},
		{{1}, {1, 2}},
		{repeated(0, 65), repeated(0, 65)},
		{repeated(1, 65), repeated(1, 65)},
		{repeated(1, 64), repeated(1, 65)},
		{repeated(1, 65), repeated(1, 64)},
		{repeated(1, 64), repeated(1, 63)},
		{repeated(1, 1000), repeated(1, 1000)},
		{append(repeated(1, 63), -1), repeated(1, 64)},
		{repeated(1, 64), append(repeated(1, 63), impl.Prime)},
	}
	for _, bad := range noNumbers {
		cases = append(cases, [2][]int64{{bad}, {1}}, [2][]int64{{1}, {bad}}, [2][]int64{{1, bad}, {1, 0}}, [2][]int64{{0, 1}, {bad, 1}})
	}
	for i, c := range cases {
		n, code := impl.DotOf(c[0], c[1])
		checkNumber(t, call("DotOf, case", int64(i)), n, code, 0, impl.ErrRange)
	}
}

func TestCallsKeepNoState(t *testing.T) {
	for range 3 {
		n, code := impl.LogarithmOf(4)
		first, _ := impl.LogarithmOf(2)
		checkNumber(t, "LogarithmOf(4)", n, code, 2*first%units, impl.ErrNone)
		n, code = impl.ParseNumber("bad")
		checkNumber(t, "ParseNumber(bad)", n, code, 0, impl.ErrSyntax)
		n, code = impl.ParseNumber("-1/2")
		checkNumber(t, "ParseNumber(-1/2)", n, code, 27720, impl.ErrNone)
	}
}
