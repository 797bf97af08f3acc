package sign

import (
	"bytes"
	"math"
	"math/big"
	"math/rand"
	"testing"

	"bagnall/api"
)

const (
	prime = api.Prime
	order = api.Order
)

// far are numbers beyond every range of the chapter, some of them congruent to
// numbers within.
var far = []int{
	math.MinInt, math.MinInt + 1, -1 << 32, -prime - 1, -prime, -prime + 1, -order - 1, -order, -order + 1, -4, -2, -1,
	prime, prime + 1, prime + 4, 2 * prime, 1 << 32, 1<<32 + 4, math.MaxInt - 1, math.MaxInt,
}

// powers has the power of Base with each exponent, made by multiplication
// alone; isSquare says which numbers are among them.
func powers() (list []int, isSquare map[int]bool) {
	isSquare = map[int]bool{}
	n := 1
	for range order {
		list = append(list, n)
		isSquare[n] = true
		n = n * api.Base % prime
	}
	return list, isSquare
}

// bigPower, bigHash and the functions that follow say what the chapter says
// once more, with numbers of any size.
func bigPower(n, exponent, modulus int) int {
	return int(new(big.Int).Exp(big.NewInt(int64(n)), big.NewInt(int64(exponent)), big.NewInt(int64(modulus))).Int64())
}

func bigHash(r int, text []byte) int {
	h := big.NewInt(int64(r))
	for _, c := range text {
		h.Mul(h, big.NewInt(257))
		h.Add(h, big.NewInt(int64(c)+1))
	}
	return int(h.Mod(h, big.NewInt(order)).Int64())
}

func likePublicKey(n int) bool {
	return n >= 2 && n <= prime-1 && bigPower(n, order, prime) == 1
}

func likeSigned(s api.Sign) bool {
	return likePublicKey(s.R) && s.S >= 0 && s.S <= order-1
}

func likeSecret(x int) bool { return x >= 1 && x <= order-1 }

func likeMake(x, k int, text []byte) (api.Sign, api.Errno) {
	switch {
	case !likeSecret(x), !likeSecret(k):
		return api.Sign{}, api.ErrRange
	case len(text) > api.MaxText:
		return api.Sign{}, api.ErrSize
	}
	r := bigPower(api.Base, k, prime)
	return api.Sign{R: r, S: (k + x*bigHash(r, text)) % order}, api.OK
}

func likeCheck(pub int, text []byte, s api.Sign) api.Errno {
	switch {
	case !likePublicKey(pub), !likeSigned(s):
		return api.ErrRange
	case len(text) > api.MaxText:
		return api.ErrSize
	case bigPower(api.Base, s.S, prime) != s.R*bigPower(pub, bigHash(s.R, text), prime)%prime:
		return api.ErrSign
	}
	return api.OK
}

func likeReveal(text, other []byte, s, o api.Sign) (int, api.Errno) {
	switch {
	case !likeSigned(s), !likeSigned(o):
		return 0, api.ErrRange
	case len(text) > api.MaxText, len(other) > api.MaxText:
		return 0, api.ErrSize
	case s.R != o.R:
		return 0, api.ErrForm
	}
	hashes := big.NewInt(int64(bigHash(s.R, text) - bigHash(o.R, other)))
	if hashes.Sign() == 0 {
		return 0, api.ErrNone
	}
	q := new(big.Int).ModInverse(hashes, big.NewInt(order))
	q.Mul(q, big.NewInt(int64(s.S-o.S)))
	return int(q.Mod(q, big.NewInt(order)).Int64()), api.OK
}

func wantPublic(t *testing.T, x, want int, code api.Errno) {
	t.Helper()
	if got, e := Public(x); got != want || e != code {
		t.Errorf("Public(%d): %d %d, want %d %d", x, got, e, want, code)
	}
}

func wantHash(t *testing.T, r int, text []byte, want int, code api.Errno) {
	t.Helper()
	if got, e := Hash(r, text); got != want || e != code {
		t.Errorf("Hash(%d, %d bytes %q): %d %d, want %d %d", r, len(text), text, got, e, want, code)
	}
}

func wantMake(t *testing.T, x, k int, text []byte, want api.Sign, code api.Errno) {
	t.Helper()
	if got, e := Make(x, k, text); got != want || e != code {
		t.Errorf("Make(%d, %d, %d bytes %q): %v %d, want %v %d", x, k, len(text), text, got, e, want, code)
	}
}

func wantNoMake(t *testing.T, x, k int, text []byte, code api.Errno) {
	t.Helper()
	wantMake(t, x, k, text, api.Sign{}, code)
}

func wantCheck(t *testing.T, pub int, text []byte, s api.Sign, code api.Errno) {
	t.Helper()
	if e := Check(pub, text, s); e != code {
		t.Errorf("Check(%d, %d bytes %q, %v): %d, want %d", pub, len(text), text, s, e, code)
	}
}

func wantSecret(t *testing.T, text, other []byte, s, o api.Sign, want int, code api.Errno) {
	t.Helper()
	if got, e := Secret(text, other, s, o); got != want || e != code {
		t.Errorf("Secret(%d bytes %q, %d bytes %q, %v, %v): %d %d, want %d %d",
			len(text), text, len(other), other, s, o, got, e, want, code)
	}
}

// made is the signature of which the test knows that it can be made.
func made(t *testing.T, x, k int, text []byte) api.Sign {
	t.Helper()
	s, e := Make(x, k, text)
	if e != api.OK {
		t.Fatalf("Make(%d, %d, %q): %d", x, k, text, e)
	}
	return s
}

func publicOf(t *testing.T, x int) int {
	t.Helper()
	y, e := Public(x)
	if e != api.OK {
		t.Fatalf("Public(%d): %d", x, e)
	}
	return y
}

// sample returns n bytes that take on many values.
func sample(n int) []byte {
	b := make([]byte, n)
	for i := range b {
		b[i] = byte(i*i*7 + i*31 + 5)
	}
	return b
}

// texts are of all lengths that matter.
func texts() [][]byte {
	return [][]byte{
		nil, {}, {0}, {255}, {0, 0}, []byte("a"), []byte("a text"), sample(17), sample(256),
		sample(api.MaxText - 1), sample(api.MaxText), make([]byte, api.MaxText), bytes.Repeat([]byte{255}, api.MaxText),
	}
}

// tooLong are texts of which the shortest has a byte too many.
func tooLong() [][]byte {
	return [][]byte{sample(api.MaxText + 1), make([]byte, api.MaxText+1), sample(2 * api.MaxText), make([]byte, 1<<20)}
}

// zeroText returns a text of two bytes whose hash with r is 0.
func zeroText(t *testing.T, r int) []byte {
	t.Helper()
	for n := range 1 << 16 {
		text := []byte{byte(n >> 8), byte(n)}
		if bigHash(r, text) == 0 {
			return text
		}
	}
	t.Fatalf("no text has with %d a hash of 0", r)
	return nil
}

func TestPublicP4_1(t *testing.T) {
	wantPublic(t, 1, api.Base, api.OK)
	wantPublic(t, 2, 16, api.OK)
	wantPublic(t, 3, 64, api.OK)
	wantPublic(t, 5, 1024, api.OK)
	wantPublic(t, 6, 4096, api.OK)
	wantPublic(t, 7, 738, api.OK)            // 16384 - 2 * 7823
	wantPublic(t, order-1, 1956, api.OK)     // 4 * 1956 = 7824
	wantPublic(t, order-2, 489, api.OK)      // 16 * 489 = 7824
	wantPublic(t, 0, 0, api.ErrRange)        // 1 is no public key
	wantPublic(t, order, 0, api.ErrRange)    // nor is it here
	wantPublic(t, order+1, 0, api.ErrRange)  // the power is Base, but
	wantPublic(t, 1-order, 0, api.ErrRange)  // the number is no secret
	wantPublic(t, prime-1, 0, api.ErrRange)  // where powers repeat
	wantPublic(t, prime-11, 0, api.ErrRange) // and near it
	for _, x := range far {
		wantPublic(t, x, 0, api.ErrRange)
	}
}

func TestPublicOfEveryNumber(t *testing.T) {
	list, _ := powers()
	seen := map[int]bool{}
	for x := -2 * prime; x <= 2*prime; x++ {
		if x < 1 || x >= order {
			wantPublic(t, x, 0, api.ErrRange)
			continue
		}
		wantPublic(t, x, list[x], api.OK)
		wantPublic(t, x, bigPower(api.Base, x, prime), api.OK)
		y := publicOf(t, x)
		if !likePublicKey(y) || seen[y] {
			t.Errorf("Public(%d): %d is no public key, or another secret's", x, y)
		}
		seen[y] = true
	}
}

func TestHashP4_2(t *testing.T) {
	wantHash(t, 1, nil, 1, api.OK)
	wantHash(t, 1, []byte{}, 1, api.OK)
	wantHash(t, 0, nil, 0, api.OK)
	wantHash(t, 0, []byte{0}, 1, api.OK)
	wantHash(t, 0, []byte{255}, 256, api.OK)
	wantHash(t, 0, []byte{0, 0}, 258, api.OK)
	wantHash(t, 1, []byte{0}, 258, api.OK)
	wantHash(t, 4, []byte{0, 1}, 2418, api.OK)
	wantHash(t, order-1, nil, order-1, api.OK)
	wantHash(t, order, nil, 0, api.OK)
	wantHash(t, order+1, nil, 1, api.OK)
	wantHash(t, prime-2, nil, order-1, api.OK) // 2 * order - 1
	wantHash(t, prime-1, nil, 0, api.OK)       // 2 * order
	wantHash(t, prime-1, []byte{0}, 1, api.OK)
	wantHash(t, prime, nil, 0, api.ErrRange)
	wantHash(t, -1, nil, 0, api.ErrRange)
}

func TestHashOfEveryNumber(t *testing.T) {
	for r := -2 * prime; r <= 2*prime; r++ {
		for _, text := range [][]byte{nil, {0}, []byte("a text")} {
			if r < 0 || r >= prime {
				wantHash(t, r, text, 0, api.ErrRange)
			} else {
				wantHash(t, r, text, bigHash(r, text), api.OK)
			}
		}
	}
}

func TestHashOfEveryByte(t *testing.T) {
	for c := range 256 {
		one := []byte{byte(c)}
		wantHash(t, 0, one, c+1, api.OK)
		wantHash(t, 1, one, 257+c+1, api.OK)
		for _, text := range [][]byte{{byte(c), 0}, {0, byte(c)}, {9, byte(c), 9}} {
			wantHash(t, 77, text, bigHash(77, text), api.OK)
		}
	}
}

func TestHashOfEveryLength(t *testing.T) {
	for n := range 2*api.MaxText + 1 {
		for _, r := range []int{0, 1, order - 1, order, prime - 1} {
			for _, text := range [][]byte{sample(n), make([]byte, n), bytes.Repeat([]byte{255}, n)} {
				if n > api.MaxText {
					wantHash(t, r, text, 0, api.ErrSize)
				} else {
					wantHash(t, r, text, bigHash(r, text), api.OK)
				}
			}
		}
	}
}

func TestHashErrorsInOrder(t *testing.T) {
	for _, r := range far {
		wantHash(t, r, nil, 0, api.ErrRange)
		for _, text := range tooLong() {
			wantHash(t, r, text, 0, api.ErrRange)
		}
	}
	for _, r := range []int{0, 1, 4, order, prime - 1} {
		for _, text := range tooLong() {
			wantHash(t, r, text, 0, api.ErrSize)
		}
	}
}

func TestMakeP4_2(t *testing.T) {
	wantMake(t, 5, 2, []byte{0, 1}, api.Sign{R: 16, S: 1456}, api.OK)
	wantMake(t, 1, 1, nil, api.Sign{R: 4, S: 5}, api.OK)
	wantMake(t, 2, 1, nil, api.Sign{R: 4, S: 9}, api.OK)
	wantMake(t, 1, 2, nil, api.Sign{R: 16, S: 18}, api.OK)
	wantMake(t, order-1, 1, nil, api.Sign{R: 4, S: order - 3}, api.OK)
	wantMake(t, order-1, order-1, nil, api.Sign{R: 1956, S: order - 1957}, api.OK)
	wantMake(t, 1, order-1, nil, api.Sign{R: 1956, S: 1955}, api.OK)
	wantMake(t, (order-1)/4, 1, nil, api.Sign{R: 4, S: 1 + 4*((order-1)/4)}, api.OK)
	for _, text := range texts() {
		for _, x := range []int{1, 2, 5, 1000, order - 2, order - 1} {
			for _, k := range []int{1, 2, 3, 2000, order - 2, order - 1} {
				want, _ := likeMake(x, k, text)
				wantMake(t, x, k, text, want, api.OK)
			}
		}
	}
}

func TestMakeOfEverySecretAndNonce(t *testing.T) {
	text := []byte("a text")
	for n := -order; n <= prime; n++ {
		for _, m := range []int{1, 7, 1234, order - 1} {
			want, code := likeMake(n, m, text)
			wantMake(t, n, m, text, want, code)
			want, code = likeMake(m, n, text)
			wantMake(t, m, n, text, want, code)
		}
	}
}

// The same secret and text: each nonce gives another R. The same nonce: each
// secret gives another S, unless the hash is 0.
func TestSignaturesDiffer(t *testing.T) {
	text := []byte("a text")
	byNonce, bySecret := map[int]bool{}, map[int]bool{}
	for n := 1; n < order; n++ {
		byNonce[made(t, 9, n, text).R] = true
		bySecret[made(t, n, 9, text).S] = true
	}
	if len(byNonce) != order-1 || len(bySecret) != order-1 {
		t.Errorf("%d nonces and %d secrets can be told apart", len(byNonce), len(bySecret))
	}
}

// Where the hash is 0, S is the nonce, whatever the secret is.
func TestHashOfZero(t *testing.T) {
	for _, k := range []int{1, 2, 77, 3000, order - 1} {
		r := publicOf(t, k)
		text := zeroText(t, r)
		wantHash(t, r, text, 0, api.OK)
		for _, x := range []int{1, 2, 500, order - 1} {
			s := api.Sign{R: r, S: k}
			wantMake(t, x, k, text, s, api.OK)
			wantCheck(t, publicOf(t, x), text, s, api.OK)
			wantCheck(t, publicOf(t, x), text, api.Sign{R: r, S: k - 1}, api.ErrSign)
			wantSecret(t, text, text, s, s, 0, api.ErrNone)
			// A single hash of 0 is a hash like any other.
			o := made(t, x, k, []byte("other"))
			wantSecret(t, text, []byte("other"), s, o, x, api.OK)
			wantSecret(t, []byte("other"), text, o, s, x, api.OK)
		}
	}
}

// An S of 0 is within the range.
func TestSOfZero(t *testing.T) {
	found := 0
	for x := 1; x < order; x++ {
		s := made(t, x, 7, []byte("a text"))
		if s.S == 0 {
			found++
			wantCheck(t, publicOf(t, x), []byte("a text"), s, api.OK)
			o := made(t, x, 7, []byte("other"))
			wantSecret(t, []byte("a text"), []byte("other"), s, o, x, api.OK)
		}
	}
	if found != 1 {
		t.Errorf("%d secrets have an S of 0", found)
	}
}

func TestMakeErrorsInOrder(t *testing.T) {
	bad := append([]int{0, order, order + 1, prime - 1}, far...)
	for _, n := range bad {
		for _, text := range append(tooLong(), nil, []byte("a text")) {
			wantNoMake(t, n, 2, text, api.ErrRange)
			wantNoMake(t, 2, n, text, api.ErrRange)
			wantNoMake(t, n, n, text, api.ErrRange)
			wantNoMake(t, n, 0, text, api.ErrRange)
		}
	}
	for _, text := range tooLong() {
		for _, n := range []int{1, 2, order - 1} {
			wantNoMake(t, n, 1, text, api.ErrSize)
			wantNoMake(t, order-1, n, text, api.ErrSize)
		}
	}
}

func TestCheckP4_3(t *testing.T) {
	for _, text := range texts() {
		for _, x := range []int{1, 2, 5, 1000, order - 1} {
			for _, k := range []int{1, 2, 3, 2000, order - 1} {
				s := made(t, x, k, text)
				wantCheck(t, publicOf(t, x), text, s, api.OK)
			}
		}
	}
	text := []byte{0, 1}
	wantCheck(t, 1024, text, api.Sign{R: 16, S: 1456}, api.OK)
	wantCheck(t, 1024, []byte{0, 2}, api.Sign{R: 16, S: 1456}, api.ErrSign)
	wantCheck(t, 1024, []byte{1, 0}, api.Sign{R: 16, S: 1456}, api.ErrSign)
	wantCheck(t, 1024, []byte{0}, api.Sign{R: 16, S: 1456}, api.ErrSign)
	wantCheck(t, 1024, nil, api.Sign{R: 16, S: 1456}, api.ErrSign)
	wantCheck(t, 1024, []byte{0, 1, 0}, api.Sign{R: 16, S: 1456}, api.ErrSign)
	wantCheck(t, 4096, text, api.Sign{R: 16, S: 1456}, api.ErrSign)
	wantCheck(t, 1024, text, api.Sign{R: 64, S: 1456}, api.ErrSign)
	wantCheck(t, 1024, text, api.Sign{R: 16, S: 1455}, api.ErrSign)
	wantCheck(t, 1024, text, api.Sign{R: 16, S: 0}, api.ErrSign)
}

// Of all S, exactly one makes the equation hold.
func TestCheckOfEveryS(t *testing.T) {
	for _, text := range [][]byte{nil, []byte("a text")} {
		good := made(t, 321, 123, text)
		pub := publicOf(t, 321)
		for n := -prime; n <= prime; n++ {
			want := api.ErrSign
			switch {
			case n < 0 || n >= order:
				want = api.ErrRange
			case n == good.S:
				want = api.OK
			}
			wantCheck(t, pub, text, api.Sign{R: good.R, S: n}, want)
		}
	}
}

// Every number as public key and as R: what is no power of Base is no public
// key, and neither is 1.
func TestCheckOfEveryKey(t *testing.T) {
	_, isSquare := powers()
	text := []byte("a text")
	good := made(t, 321, 123, text)
	pub := publicOf(t, 321)
	for n := -prime; n <= 2*prime; n++ {
		if n == 1 || !isSquare[n] {
			wantCheck(t, n, text, good, api.ErrRange)
			wantCheck(t, pub, text, api.Sign{R: n, S: good.S}, api.ErrRange)
			continue
		}
		want := api.ErrSign
		if n == pub {
			want = api.OK
		}
		wantCheck(t, n, text, good, want)
		s := api.Sign{R: n, S: good.S}
		wantCheck(t, pub, text, s, likeCheck(pub, text, s))
	}
}

func TestKeysAtTheEdges(t *testing.T) {
	good := made(t, 5, 2, nil)
	// 2 is a square modulo Prime, 5 and Prime - 1 are not.
	wantCheck(t, 2, nil, good, api.ErrSign)
	wantCheck(t, 4, nil, good, api.ErrSign)
	for _, n := range append([]int{0, 1, 5, prime - 4, prime - 2, prime - 1}, far...) {
		wantCheck(t, n, nil, good, api.ErrRange)
		wantCheck(t, 1024, nil, api.Sign{R: n, S: good.S}, api.ErrRange)
		wantCheck(t, n, nil, api.Sign{R: n, S: n}, api.ErrRange)
	}
	for _, n := range append([]int{order, order + 1, good.S + order, good.S - order}, far...) {
		wantCheck(t, 1024, nil, api.Sign{R: good.R, S: n}, api.ErrRange)
	}
	wantCheck(t, 1024, nil, api.Sign{}, api.ErrRange)
	wantCheck(t, 0, nil, api.Sign{}, api.ErrRange)
	// The equation holds for the key 1, which is none, and for an R of 1.
	wantCheck(t, 1, nil, api.Sign{R: 16, S: 2}, api.ErrRange)
	wantCheck(t, 4, nil, api.Sign{R: 1, S: 1}, api.ErrRange)
	// The secret of 2 is half of Order + 1.
	wantCheck(t, 2, nil, made(t, (order+1)/2, 9, nil), api.OK)
	wantCheck(t, 2, nil, made(t, (order+1)/2, (order+1)/2, nil), api.OK)
}

func TestCheckErrorsInOrder(t *testing.T) {
	long := sample(api.MaxText + 1)
	good := made(t, 5, 2, long[:api.MaxText])
	wantCheck(t, 1024, long[:api.MaxText], good, api.OK)
	for _, text := range tooLong() {
		wantCheck(t, 1024, text, good, api.ErrSize)
		wantCheck(t, 1024, text, api.Sign{R: 16, S: 0}, api.ErrSize)
		for _, n := range append([]int{0, 1, 5, prime - 1}, far...) {
			wantCheck(t, n, text, good, api.ErrRange)
			wantCheck(t, 1024, text, api.Sign{R: n, S: good.S}, api.ErrRange)
		}
		for _, n := range append([]int{order}, far...) {
			wantCheck(t, 1024, text, api.Sign{R: good.R, S: n}, api.ErrRange)
		}
	}
	// A text that is as long as may be, with a byte changed at either end.
	for _, i := range []int{0, api.MaxText / 2, api.MaxText - 1} {
		other := sample(api.MaxText)
		other[i]++
		wantCheck(t, 1024, other, good, api.ErrSign)
	}
	// A signature of which the equation holds, but for a text that is too long.
	wantCheck(t, 1024, long, api.Sign{R: 16, S: (2 + 5*bigHash(16, long)) % order}, api.ErrSize)
}

func TestSecretP4_3(t *testing.T) {
	one, two := []byte{0, 1}, []byte{7}
	s, o := made(t, 5, 2, one), made(t, 5, 2, two)
	wantSecret(t, one, two, s, o, 5, api.OK)
	wantSecret(t, two, one, o, s, 5, api.OK)
	// The signatures laid to the other's text: the quotient changes its sign.
	wantSecret(t, two, one, s, o, order-5, api.OK)
	for x := 1; x < order; x++ {
		k := order - x
		s, o := made(t, x, k, nil), made(t, x, k, two)
		wantSecret(t, nil, two, s, o, x, api.OK)
		wantSecret(t, two, nil, o, s, x, api.OK)
	}
	// Texts of one byte never have the same hash.
	for k := 1; k < order; k++ {
		s, o := made(t, 1234, k, []byte{8}), made(t, 1234, k, two)
		wantSecret(t, []byte{8}, two, s, o, 1234, api.OK)
	}
}

func TestSecretOfEveryTwoTexts(t *testing.T) {
	for i, text := range texts() {
		for j, other := range texts() {
			for _, x := range []int{1, 2, 1000, order - 1} {
				s, o := made(t, x, 77, text), made(t, x, 77, other)
				want, code := x, api.OK
				if bigHash(s.R, text) == bigHash(s.R, other) {
					want, code = 0, api.ErrNone
				}
				if i == j && code == api.OK {
					t.Fatalf("two hashes of text %d", i)
				}
				wantSecret(t, text, other, s, o, want, code)
			}
		}
	}
}

// What the signatures were made by does not matter: the quotient is returned,
// also where it is 0 and no secret has made them.
func TestSecretOfOtherNumbers(t *testing.T) {
	one, two := []byte("one"), []byte("two")
	for n := range order {
		s, o := api.Sign{R: 16, S: n}, api.Sign{R: 16, S: 100}
		want, _ := likeReveal(one, two, s, o)
		wantSecret(t, one, two, s, o, want, api.OK)
		want, _ = likeReveal(one, two, o, s)
		wantSecret(t, one, two, o, s, want, api.OK)
		wantSecret(t, one, two, s, s, 0, api.OK)
		// By two secrets, with the same nonce.
		if n > 0 {
			s, o = made(t, n, 2, one), made(t, 100, 2, two)
			want, _ = likeReveal(one, two, s, o)
			wantSecret(t, one, two, s, o, want, api.OK)
		}
	}
}

// The quotient is checked by multiplication, for every difference of hashes.
func TestSecretDividesByEveryNumber(t *testing.T) {
	// The nonce 2 has the R 16; a text of two bytes can have any hash.
	byHash := map[int][]byte{}
	for n := range 1 << 16 {
		text := []byte{byte(n >> 8), byte(n)}
		byHash[bigHash(16, text)] = text
	}
	if len(byHash) != order {
		t.Fatalf("%d hashes", len(byHash))
	}
	for h := range order {
		for _, other := range []int{0, 1, 1955, order - 1} {
			s, o := api.Sign{R: 16, S: 1000}, api.Sign{R: 16, S: 3001}
			q, e := Secret(byHash[h], byHash[other], s, o)
			if h == other {
				if q != 0 || e != api.ErrNone {
					t.Errorf("equal hashes %d: %d %d", h, q, e)
				}
				continue
			}
			if e != api.OK || q < 0 || q >= order || (q*(h-other)-(1000-3001))%order != 0 {
				t.Errorf("hashes %d and %d: %d %d", h, other, q, e)
			}
		}
	}
}

func TestSecretOfEqualHashes(t *testing.T) {
	one := []byte("one")
	s := made(t, 5, 2, one)
	wantSecret(t, one, one, s, s, 0, api.ErrNone)
	wantSecret(t, one, one, s, api.Sign{R: s.R, S: 0}, 0, api.ErrNone)
	wantSecret(t, nil, nil, s, s, 0, api.ErrNone)
	wantSecret(t, nil, []byte{}, s, s, 0, api.ErrNone)
	// Other texts of the same hash.
	found := 0
	for n := range 1 << 16 {
		other := []byte{byte(n >> 8), byte(n)}
		if bigHash(s.R, other) == bigHash(s.R, one) {
			found++
			wantSecret(t, one, other, s, made(t, 5, 2, other), 0, api.ErrNone)
			wantSecret(t, other, one, made(t, 9, 2, other), s, 0, api.ErrNone)
		}
	}
	if found == 0 {
		t.Error("no other text has the same hash")
	}
}

func TestSecretOfDifferentR(t *testing.T) {
	one, two := []byte("one"), []byte("two")
	for _, k := range []int{1, 3, 1000, order - 1} {
		s := made(t, 5, 2, one)
		for _, text := range [][]byte{one, two, nil} {
			o := made(t, 5, k, text)
			wantSecret(t, one, text, s, o, 0, api.ErrForm)
			wantSecret(t, text, one, o, s, 0, api.ErrForm)
		}
	}
	// Different R with equal hashes: ErrForm comes first. With numbers below
	// Prime and twice Order, two R may even be congruent modulo Order.
	_, isSquare := powers()
	found := 0
	for r := 2; r < order; r++ {
		if isSquare[r] && isSquare[r+order] {
			found++
			wantSecret(t, one, one, api.Sign{R: r, S: 1}, api.Sign{R: r + order, S: 2}, 0, api.ErrForm)
			wantSecret(t, one, two, api.Sign{R: r + order, S: 1}, api.Sign{R: r, S: 2}, 0, api.ErrForm)
		}
	}
	if found == 0 {
		t.Error("no two R are congruent")
	}
}

func TestSecretErrorsInOrder(t *testing.T) {
	one, two, long := []byte("one"), []byte("two"), sample(api.MaxText+1)
	good, another := made(t, 5, 2, one), made(t, 5, 3, two)
	var bad []api.Sign
	for _, n := range append([]int{0, 1, 5, prime - 1}, far...) {
		bad = append(bad, api.Sign{R: n, S: good.S}, api.Sign{R: n, S: 0})
	}
	for _, n := range append([]int{order, order + 1}, far...) {
		bad = append(bad, api.Sign{R: good.R, S: n}, api.Sign{R: another.R, S: n}, api.Sign{R: n, S: n})
	}
	for _, s := range bad {
		for _, o := range []api.Sign{good, another, s, {}} {
			wantSecret(t, one, two, s, o, 0, api.ErrRange)
			wantSecret(t, one, two, o, s, 0, api.ErrRange)
			wantSecret(t, one, one, o, s, 0, api.ErrRange)
			wantSecret(t, long, two, s, o, 0, api.ErrRange)
			wantSecret(t, long, two, o, s, 0, api.ErrRange)
			wantSecret(t, one, long, s, o, 0, api.ErrRange)
			wantSecret(t, long, long, o, s, 0, api.ErrRange)
		}
	}
	for _, text := range tooLong() {
		for _, o := range []api.Sign{good, another} {
			wantSecret(t, text, two, good, o, 0, api.ErrSize)
			wantSecret(t, one, text, good, o, 0, api.ErrSize)
			wantSecret(t, text, text, good, o, 0, api.ErrSize)
			wantSecret(t, text, nil, o, good, 0, api.ErrSize)
		}
	}
	full := long[:api.MaxText]
	wantSecret(t, full, one, made(t, 5, 2, full), good, 5, api.OK)
	wantSecret(t, one, full, good, made(t, 5, 2, full), 5, api.OK)
	wantSecret(t, full, full, good, good, 0, api.ErrNone)
	wantSecret(t, full, full, good, another, 0, api.ErrForm)
}

// What the examples of the document say of signatures: they hold for one
// secret and one text.
func TestSignaturesOfOthers(t *testing.T) {
	text, other := []byte("a text"), []byte("another")
	for _, x := range []int{1, 17, 1000, order - 1} {
		for _, y := range []int{2, 18, 999, order - 2} {
			for _, k := range []int{1, 5, order - 1} {
				s := made(t, x, k, text)
				wantCheck(t, publicOf(t, x), text, s, api.OK)
				wantCheck(t, publicOf(t, y), text, s, api.ErrSign)
				wantCheck(t, publicOf(t, x), other, s, api.ErrSign)
				wantCheck(t, publicOf(t, x), text, made(t, y, k, text), api.ErrSign)
			}
		}
	}
}

// room returns a text that has spare capacity, and all of its memory.
func room(n int) (text, all []byte) {
	all = sample(n + 50)
	return all[: n : n+50], all
}

func TestTextsAreNotModified(t *testing.T) {
	for _, n := range []int{0, 1, 40, api.MaxText, api.MaxText + 1} {
		text, all := room(n)
		other, allOther := room(n / 2)
		Hash(4, text)
		s, _ := Make(5, 2, text)
		o, _ := Make(5, 2, other)
		Check(1024, text, s)
		Check(1024, other, o)
		Secret(text, other, s, o)
		Secret(text, text, s, s)
		if !bytes.Equal(all, sample(n+50)) || !bytes.Equal(allOther, sample(n/2+50)) {
			t.Errorf("a text of %d bytes has changed", n)
		}
	}
}

// A text that changes after a call does not change what the next one says.
func TestNothingIsKept(t *testing.T) {
	text := []byte("a text")
	s := made(t, 5, 2, text)
	text[0] = 'b'
	o := made(t, 5, 2, text)
	wantCheck(t, 1024, text, s, api.ErrSign)
	wantCheck(t, 1024, []byte("a text"), s, api.OK)
	wantCheck(t, 1024, text, o, api.OK)
	for range 3 {
		wantSecret(t, []byte("a text"), text, s, o, 5, api.OK)
		wantMake(t, 5, 2, []byte("a text"), s, api.OK)
	}
}

// wantAllLike compares all functions with what the chapter says once more.
func wantAllLike(t *testing.T, a, b int, text, other []byte, s, o api.Sign) {
	t.Helper()
	if likeSecret(a) {
		wantPublic(t, a, bigPower(api.Base, a, prime), api.OK)
	} else {
		wantPublic(t, a, 0, api.ErrRange)
	}
	switch {
	case a < 0 || a >= prime:
		wantHash(t, a, text, 0, api.ErrRange)
	case len(text) > api.MaxText:
		wantHash(t, a, text, 0, api.ErrSize)
	default:
		wantHash(t, a, text, bigHash(a, text), api.OK)
	}
	m, code := likeMake(a, b, text)
	wantMake(t, a, b, text, m, code)
	wantCheck(t, a, text, s, likeCheck(a, text, s))
	wantCheck(t, b, other, m, likeCheck(b, other, m))
	x, code := likeReveal(text, other, s, o)
	wantSecret(t, text, other, s, o, x, code)
}

// number picks one of the numbers that matter, or any other one.
func number(random *rand.Rand) int {
	switch random.Intn(8) {
	case 0:
		return far[random.Intn(len(far))]
	case 1:
		return int(random.Uint64())
	case 2:
		return random.Intn(4*prime) - 2*prime
	case 3:
		return random.Intn(prime)
	default:
		return bigPower(api.Base, random.Intn(order), prime) % order
	}
}

func TestManyNumbers(t *testing.T) {
	random := rand.New(rand.NewSource(4))
	for range 20000 {
		a, b := number(random), number(random)
		s := api.Sign{R: number(random), S: number(random)}
		o := api.Sign{R: number(random), S: number(random)}
		if random.Intn(2) == 0 {
			o.R = s.R
		}
		wantAllLike(t, a, b, sample(random.Intn(30)), sample(random.Intn(api.MaxText+30)), s, o)
	}
}

func FuzzSign(f *testing.F) {
	f.Add(5, 2, []byte{0, 1}, []byte{7}, 16, 1456, 16, 77)
	f.Add(1024, 4, []byte{}, []byte{0}, 16, 1456, 16, 77)
	f.Add(math.MinInt, math.MaxInt, sample(api.MaxText), sample(api.MaxText+1), prime-1, order, 1, -1)
	f.Fuzz(func(t *testing.T, a, b int, text, other []byte, r, n, r2, n2 int) {
		wantAllLike(t, a, b, text, other, api.Sign{R: r, S: n}, api.Sign{R: r2, S: n2})
	})
}
