package impl

import (
	"math"
	"strconv"
	"strings"
)

// A product that goes straight into a sum or a difference is wrapped in a
// conversion, float64(a*b) or float32(a*b): without it, the compiler may fuse
// both operations and leave out the rounding of the product.

// Limits of chapter 1.
const (
	MaxNumbers = 256
	MaxValue   = 1000000000000000
	MaxItems   = 64
	CheckSize  = 65003
)

const (
	nanBits    = 0x7fc00000 // the bits that stand for all not-a-numbers
	maxBits    = 1<<32 - 1
	bitsDigits = 8
	longTurns  = 1 << 52 // from here on, 64-bit numbers have no places behind the point
	emptyText  = "none"
	comma      = ","
)

// SameNumber reports whether two numbers are the same.
func SameNumber(a, b float32) bool {
	return BitsOf(a) == BitsOf(b)
}

// IsFinite reports whether x is finite.
func IsFinite(x float32) bool {
	return !isNaN(x) && !math.IsInf(float64(x), 0)
}

func isNaN(x float32) bool {
	return math.IsNaN(float64(x))
}

func notANumber() float32 {
	return math.Float32frombits(nanBits)
}

// BitsOf returns the bits of a number.
func BitsOf(x float32) int64 {
	if isNaN(x) {
		return nanBits
	}
	return int64(math.Float32bits(x))
}

// FromBits returns the number with the given bits.
func FromBits(n int64) (float32, bool) {
	if n < 0 || n > maxBits {
		return 0, false
	}
	return math.Float32frombits(uint32(n)), true
}

// NarrowNumber returns the nearest 32-bit number.
func NarrowNumber(x float64) float32 {
	return float32(x)
}

// IsSubnormal reports whether x is subnormal.
func IsSubnormal(x float32) bool {
	return x != 0 && math.Abs(float64(x)) < 0x1p-126
}

// FlushNumber returns x, but a zero with its sign if it is subnormal.
func FlushNumber(x float32) float32 {
	if IsSubnormal(x) {
		return float32(math.Copysign(0, float64(x)))
	}
	return x
}

// SameComplex reports whether two complex numbers are the same.
func SameComplex(a, b complex64) bool {
	return SameNumber(real(a), real(b)) && SameNumber(imag(a), imag(b))
}

// IsFiniteComplex reports whether both parts are finite.
func IsFiniteComplex(x complex64) bool {
	return IsFinite(real(x)) && IsFinite(imag(x))
}

// NarrowComplex returns a number with narrowed parts.
func NarrowComplex(x complex128) complex64 {
	return complex(NarrowNumber(real(x)), NarrowNumber(imag(x)))
}

// widePartsOf returns both parts as 64-bit numbers.
func widePartsOf(x complex64) (float64, float64) {
	return float64(real(x)), float64(imag(x))
}

// wideProduct returns a product before it is narrowed.
func wideProduct(x, y complex64) complex128 {
	a, b := widePartsOf(x)
	c, d := widePartsOf(y)
	return complex(float64(a*c)-float64(b*d), float64(a*d)+float64(b*c))
}

// widePower returns a power before it is narrowed.
func widePower(x complex64) float64 {
	a, b := widePartsOf(x)
	return float64(a*a) + float64(b*b)
}

// MulComplex returns a product.
func MulComplex(x, y complex64) complex64 {
	return NarrowComplex(wideProduct(x, y))
}

// ScaleComplex returns a product with a number.
func ScaleComplex(x complex64, by float32) complex64 {
	return complex(float32(real(x)*by), float32(imag(x)*by))
}

// ConjugateOf returns the conjugate.
func ConjugateOf(x complex64) complex64 {
	return complex(real(x), -imag(x))
}

// PowerOf returns the power.
func PowerOf(x complex64) float32 {
	return NarrowNumber(widePower(x))
}

// LongOf returns the root of the power. The root is taken before narrowing, so
// that powers beyond the 32-bit numbers still have one.
func LongOf(x complex64) float32 {
	return NarrowNumber(math.Sqrt(widePower(x)))
}

// QuotientOf returns a quotient.
func QuotientOf(x, y complex64) complex64 {
	product := wideProduct(x, ConjugateOf(y))
	power := widePower(y)
	return NarrowComplex(complex(real(product)/power, imag(product)/power))
}

// RootNumber returns the square root.
func RootNumber(x float32) float32 {
	return NarrowNumber(math.Sqrt(float64(x)))
}

// fractionOf returns turns, less than 2 to the power of 52, from 0 to 1.
func fractionOf(turns float64) float64 {
	// The way through an integer gives a whole part of 0 no sign.
	f := turns - float64(int64(turns))
	if f < 0 {
		f += 1
	}
	return f
}

// wideSine returns the sine of turns less than 2 to the power of 52.
func wideSine(turns float64) float64 {
	const fullTurn = 6.283185307179586
	f := fractionOf(turns)
	turned := f >= 0.5
	if turned {
		f -= 0.5
	}
	if f > 0.25 {
		f = 0.5 - f
	}
	z := f * fullTurn
	u := z * z
	p := 1.0
	for k := 8; k >= 1; k-- {
		p = 1 - float64(u*p)/float64(2*k*(2*k+1))
	}
	if turned {
		return -float64(z * p)
	}
	return float64(z * p)
}

// SineTurns returns the sine of some turns.
func SineTurns(x float32) float32 {
	if !IsFinite(x) {
		return notANumber()
	}
	if math.Abs(float64(x)) >= longTurns {
		return 0
	}
	return NarrowNumber(wideSine(float64(x)))
}

// PhasorOf returns a point of the unit circle.
func PhasorOf(turns float64) complex64 {
	if math.IsNaN(turns) || math.IsInf(turns, 0) {
		return complex(notANumber(), notANumber())
	}
	if math.Abs(turns) >= longTurns {
		return 1
	}
	f := fractionOf(turns)
	quarters := 0
	for f >= 0.25 {
		f -= 0.25
		quarters++
	}
	c, s := wideSine(0.25-f), wideSine(f)
	// 0 less a number, and not its opposite, keeps zeros without a sign.
	switch quarters {
	case 1:
		return NarrowComplex(complex(0-s, c))
	case 2:
		return NarrowComplex(complex(0-c, 0-s))
	case 3:
		return NarrowComplex(complex(s, 0-c))
	}
	return NarrowComplex(complex(c, s))
}

// AngleOf returns the angle in turns.
func AngleOf(x complex64) float32 {
	return AngleTurns(imag(x), real(x))
}

// AngleTurns returns the angle of a point.
func AngleTurns(y, x float32) float32 {
	if !IsFinite(y) || !IsFinite(x) {
		return notANumber()
	}
	if y == 0 && x == 0 {
		return 0
	}
	a, b := math.Abs(float64(y)), math.Abs(float64(x))
	var angle float64
	if a > b {
		angle = 0.25 - wideAngle(b/a)
	} else {
		angle = wideAngle(a / b)
	}
	if x < 0 {
		angle = 0.5 - angle
	}
	if y < 0 {
		angle = -angle
	}
	return NarrowNumber(angle)
}

// wideAngle returns the turns of the angle whose tangent, from 0 to 1, is t.
func wideAngle(t float64) float64 {
	const fullTurn = 6.283185307179586
	// Each step halves the angle, so that the short series is near enough.
	for range 3 {
		t = t / (1 + math.Sqrt(1+float64(t*t)))
	}
	u := t * t
	p := 0.0
	for k := 15; k >= 1; k -= 2 {
		p = 1/float64(k) - float64(u*p)
	}
	return (8 * float64(t*p)) / fullTurn
}

// wideLog returns the logarithm of a finite number greater than 0.
func wideLog(x float64) float64 {
	const logOfTwo = 0.6931471805599453
	e := 0
	for x >= 1.5 {
		x /= 2
		e++
	}
	for x < 0.75 {
		x *= 2
		e--
	}
	s := (x - 1) / (x + 1)
	u := s * s
	q := 0.0
	for k := 25; k >= 1; k -= 2 {
		q = 1/float64(k) + float64(u*q)
	}
	return float64(2*float64(s*q)) + float64(float64(e)*logOfTwo)
}

// TenthsOf returns tenths of decibels.
func TenthsOf(power float32) (int64, bool) {
	if !IsFinite(power) || power <= 0 {
		return 0, false
	}
	const tenthsOfOne = 43.42944819032518
	tenths := float64(wideLog(float64(power)) * tenthsOfOne)
	return int64(math.Floor(tenths + 0.5)), true
}

// LogNumber returns the logarithm.
func LogNumber(x float32) float32 {
	switch {
	case isNaN(x) || x < 0:
		return notANumber()
	case x == 0:
		return float32(math.Inf(-1))
	case !IsFinite(x):
		return x
	}
	return NarrowNumber(wideLog(float64(x)))
}

// ExpNumber returns e to a power.
func ExpNumber(x float32) float32 {
	if x > 200 {
		return float32(math.Inf(1))
	}
	if x < -200 {
		return 0
	}
	t := float64(x) / 256
	p := 1.0
	for k := 12; k >= 1; k-- {
		p = 1 + float64(t*p)/float64(k)
	}
	for range 8 {
		p *= p
	}
	return NarrowNumber(p)
}

// SumNumbers returns the sum from left to right.
func SumNumbers(list []float32) (float32, bool) {
	if len(list) > MaxNumbers {
		return 0, false
	}
	var sum float32
	for _, x := range list {
		sum += x
	}
	return sum, true
}

// DotNumbers returns the sum of products.
func DotNumbers(a, b []float32) (float32, bool) {
	if len(a) > MaxNumbers || len(a) != len(b) {
		return 0, false
	}
	var sum float32
	for i := range a {
		sum += float32(a[i] * b[i])
	}
	return sum, true
}

// addComplex adds both parts on their own.
func addComplex(x, y complex64) complex64 {
	return complex(real(x)+real(y), imag(x)+imag(y))
}

// SumComplex returns the sum from left to right.
func SumComplex(list []complex64) (complex64, bool) {
	if len(list) > MaxNumbers {
		return 0, false
	}
	var sum complex64
	for _, x := range list {
		sum = addComplex(sum, x)
	}
	return sum, true
}

// dotWith returns the sum of what product makes of each two numbers.
func dotWith(a, b []complex64, product func(x, y complex64) complex64) (complex64, bool) {
	if len(a) > MaxNumbers || len(a) != len(b) {
		return 0, false
	}
	var sum complex64
	for i := range a {
		sum = addComplex(sum, product(a[i], b[i]))
	}
	return sum, true
}

// DotComplex returns the sum of products.
func DotComplex(a, b []complex64) (complex64, bool) {
	return dotWith(a, b, MulComplex)
}

// DotConjugate returns the sum of products with conjugates.
func DotConjugate(a, b []complex64) (complex64, bool) {
	return dotWith(a, b, func(x, y complex64) complex64 {
		return MulComplex(ConjugateOf(x), y)
	})
}

// PowersOf returns the sum of powers.
func PowersOf(list []complex64) (float32, bool) {
	if len(list) > MaxNumbers {
		return 0, false
	}
	sum := 0.0
	for _, x := range list {
		sum += widePower(x)
	}
	return NarrowNumber(sum), true
}

// joinText returns the texts of at most so many things, with a separator
// between.
func joinText[T any](list []T, most int, separator string, textOf func(T) string) (string, bool) {
	if len(list) > most {
		return "", false
	}
	if len(list) == 0 {
		return emptyText, true
	}
	texts := make([]string, len(list))
	for i, x := range list {
		texts[i] = textOf(x)
	}
	return strings.Join(texts, separator), true
}

// splitText returns the things whose joinText is s.
func splitText[T any](s string, most int, separator string, read func(string) (T, bool)) ([]T, bool) {
	if s == emptyText {
		return nil, true
	}
	// One part more than allowed is enough to see that there are too many.
	texts := strings.SplitN(s, separator, most+1)
	if len(texts) > most {
		return nil, false
	}
	list := make([]T, len(texts))
	for i, text := range texts {
		x, ok := read(text)
		if !ok {
			return nil, false
		}
		list[i] = x
	}
	return list, true
}

// numberText returns the hexadecimal digits of a number.
func numberText(x float32) string {
	digits := strconv.FormatInt(BitsOf(x), 16)
	return strings.Repeat("0", bitsDigits-len(digits)) + digits
}

// hexDigit returns the value of a hexadecimal digit.
func hexDigit(r rune) (int64, bool) {
	switch {
	case r >= '0' && r <= '9':
		return int64(r - '0'), true
	case r >= 'a' && r <= 'f':
		return int64(r-'a') + 10, true
	}
	return 0, false
}

// readNumber returns the number whose numberText is s.
func readNumber(s string) (float32, bool) {
	if len(s) != bitsDigits {
		return 0, false
	}
	var bits int64
	for _, r := range s {
		digit, ok := hexDigit(r)
		if !ok {
			return 0, false
		}
		bits = bits*16 + digit
	}
	x, ok := FromBits(bits)
	// Not-a-numbers have one text only, whatever their bits are.
	if !ok || BitsOf(x) != bits {
		return 0, false
	}
	return x, true
}

// NumbersText returns the text of numbers.
func NumbersText(list []float32) (string, bool) {
	return joinText(list, MaxNumbers, comma, numberText)
}

// ReadNumbers returns the numbers with the given text.
func ReadNumbers(s string) ([]float32, bool) {
	return splitText(s, MaxNumbers, comma, readNumber)
}

func oneComplexText(x complex64) string {
	return numberText(real(x)) + numberText(imag(x))
}

// readOneComplex returns the complex number whose oneComplexText is s.
func readOneComplex(s string) (complex64, bool) {
	if len(s) != 2*bitsDigits {
		return 0, false
	}
	x, xOk := readNumber(s[:bitsDigits])
	y, yOk := readNumber(s[bitsDigits:])
	if !xOk || !yOk {
		return 0, false
	}
	return complex(x, y), true
}

// ComplexText returns the text of complex numbers.
func ComplexText(list []complex64) (string, bool) {
	return joinText(list, MaxNumbers, comma, oneComplexText)
}

// ReadComplex returns the complex numbers with the given text.
func ReadComplex(s string) ([]complex64, bool) {
	return splitText(s, MaxNumbers, comma, readOneComplex)
}

// IsName reports whether s is a name.
func IsName(s string) bool {
	if len(s) < 1 || len(s) > 8 {
		return false
	}
	for _, r := range s {
		if r < 'a' || r > 'z' {
			return false
		}
	}
	return true
}

// Decimal returns n in decimal.
func Decimal(n int64) string {
	return strconv.FormatInt(n, 10)
}

func isValue(n int64) bool {
	return n >= -MaxValue && n <= MaxValue
}

// ReadDecimal returns the number with the given decimal text.
func ReadDecimal(s string) (int64, bool) {
	n, err := strconv.ParseInt(s, 10, 64)
	// The parser takes other texts of a number too, such as +1 and 01.
	if err != nil || !isValue(n) || Decimal(n) != s {
		return 0, false
	}
	return n, true
}

// ListText returns the text of a list.
func ListText(list []int64) (string, bool) {
	for _, n := range list {
		if !isValue(n) {
			return "", false
		}
	}
	return joinText(list, MaxItems, comma, Decimal)
}

// ReadList returns the list with the given text.
func ReadList(s string) ([]int64, bool) {
	return splitText(s, MaxItems, comma, ReadDecimal)
}

// CheckOf returns the check number of a text.
func CheckOf(start int64, s string) (int64, bool) {
	if start < 0 || start >= CheckSize {
		return 0, false
	}
	check := start
	for _, b := range []byte(s) {
		check = (857*check + int64(b) + 149) % CheckSize
	}
	return check, true
}
