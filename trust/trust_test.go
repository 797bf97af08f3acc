package trust

import (
	"math"
	"math/big"
	"math/rand"
	"slices"
	"testing"

	"bagnall/api"
	"bagnall/sign"
)

const (
	prime = api.Prime
	order = api.Order
)

// powers has the power of Base with each exponent: the public keys by their
// secrets, but 1, which is that of no secret.
func powers() []int {
	list := make([]int, order)
	n := 1
	for i := range list {
		list[i] = n
		n = n * api.Base % prime
	}
	return list
}

// secrets has the secret of each public key.
func secrets() map[int]int {
	m := map[int]int{}
	for x, key := range powers() {
		if x > 0 {
			m[key] = x
		}
	}
	return m
}

var secretOf = secrets()

// publicKeys are all of them, in increasing order.
func publicKeys() []int {
	keys := slices.Clone(powers()[1:])
	slices.Sort(keys)
	return keys
}

// notPublic are numbers that are no public keys, some of them congruent to
// public keys, or with the same last bytes.
func notPublic() []int {
	list := []int{
		0, 1, -1, -2, -4, -16, 5, prime - 1, prime - 4, prime, prime + 1, prime + 4, prime + 16, 2*prime + 4, 4 - prime, 16 - prime,
		1 << 13, 1 << 16, 1<<16 + 4, 1<<16 + 16, 4 - 1<<16, 1 << 32, 1<<32 + 4, 1<<32 + 16, 1<<32*prime + 4, 4 - 1<<32,
		math.MaxInt, math.MaxInt - 1, math.MaxInt - prime, math.MinInt, math.MinInt + 1, math.MinInt + 4, math.MinInt + 16,
	}
	for key := range secretOf {
		// As -1 is no square, neither is the opposite of one.
		list = append(list, prime-key)
	}
	slices.Sort(list)
	return slices.Compact(list)
}

// signed is the signature of text by the secret of the key.
func signed(t testing.TB, key int, text ...byte) api.Sign {
	t.Helper()
	s, e := sign.Make(secretOf[key], 9, text)
	if e != api.OK {
		t.Fatalf("Make for the key %d: %d", key, e)
	}
	return s
}

// cert is a certificate with a signature of the two bytes of any number.
func cert(t testing.TB, from, to int) api.Cert {
	t.Helper()
	return api.Cert{From: from, To: to, Sign: signed(t, from, byte(to>>8), byte(to))}
}

// bad is a certificate whose signature is another one.
func bad(t testing.TB, from, to int) api.Cert {
	t.Helper()
	c := cert(t, from, to)
	c.Sign.S = (c.Sign.S + 1) % order
	return c
}

// certs are good ones: each key of a chain certifies the next.
func certs(t testing.TB, chains ...[]int) []api.Cert {
	t.Helper()
	var l []api.Cert
	for _, chain := range chains {
		for i := range len(chain) - 1 {
			l = append(l, cert(t, chain[i], chain[i+1]))
		}
	}
	return l
}

func wantGood(t *testing.T, c api.Cert, code api.Errno) {
	t.Helper()
	if e := Good(c); e != code {
		t.Errorf("Good(%v): %d, want %d", c, e, code)
	}
}

func wantReach(t *testing.T, root int, l []api.Cert, want []int, code api.Errno) {
	t.Helper()
	was := slices.Clone(l)
	if got, e := Reach(root, l); !slices.Equal(got, want) || e != code {
		t.Errorf("Reach(%d, %v): %v %d, want %v %d", root, l, got, e, want, code)
	}
	if !slices.Equal(l, was) {
		t.Errorf("Reach made %v of %v", l, was)
	}
}

func wantPath(t *testing.T, root, key int, l []api.Cert, want []int, code api.Errno) {
	t.Helper()
	was := slices.Clone(l)
	if got, e := Path(root, key, l); !slices.Equal(got, want) || e != code {
		t.Errorf("Path(%d, %d, %v): %v %d, want %v %d", root, key, l, got, e, want, code)
	}
	if !slices.Equal(l, was) {
		t.Errorf("Path made %v of %v", l, was)
	}
}

// wantNone says that both Reach and Path fail with the same error.
func wantNone(t *testing.T, root, key int, l []api.Cert, code api.Errno) {
	t.Helper()
	wantReach(t, root, l, nil, code)
	wantPath(t, root, key, l, nil, code)
}

func TestPublicKeysOfTheTests(t *testing.T) {
	keys := publicKeys()
	if len(keys) != order-1 || keys[0] != 2 || len(secretOf) != order-1 {
		t.Fatalf("%d keys from %d", len(keys), keys[0])
	}
	for _, key := range notPublic() {
		if slices.Contains(keys, key) {
			t.Errorf("%d is a public key", key)
		}
	}
}

func TestGoodP6_1(t *testing.T) {
	for _, from := range []int{2, 4, 16, 64, 1024, publicKeys()[order-2]} {
		for _, to := range publicKeys() {
			wantGood(t, cert(t, from, to), api.OK)
		}
	}
	for _, from := range publicKeys() {
		wantGood(t, cert(t, from, 16), api.OK)
		wantGood(t, cert(t, from, from), api.OK)
	}
}

func TestGoodWithEveryNonce(t *testing.T) {
	for k := 1; k < order; k++ {
		s, e := sign.Make(5, k, []byte{4, 0})
		if e != api.OK {
			t.Fatalf("Make with the nonce %d: %d", k, e)
		}
		wantGood(t, api.Cert{From: 1024, To: 1024, Sign: s}, api.OK)
	}
}

func TestGoodIsOfTheTwoBytes(t *testing.T) {
	const from, to = 64, 0x0422 // two bytes that differ
	if secretOf[to] == 0 {
		t.Fatalf("%d is no public key", to)
	}
	for _, text := range [][]byte{
		{}, {0x22}, {0x04}, {0x22, 0x04}, {0, 0x22}, {0x04, 0}, {0x04, 0x22, 0}, {0, 0x04, 0x22}, {0, 0, 0x04, 0x22},
		{0x22, 0x04, 0, 0}, {0x22, 0x04, 0, 0, 0, 0, 0, 0}, {0, 0, 0, 0, 0, 0, 0x04, 0x22}, []byte("1058"), []byte("0422"), {0x04, 0x23}, {0x05, 0x22},
	} {
		wantGood(t, api.Cert{From: from, To: to, Sign: signed(t, from, text...)}, api.ErrSign)
	}
	wantGood(t, api.Cert{From: from, To: to, Sign: signed(t, from, 0x04, 0x22)}, api.OK)
	// A key below 256 has two bytes, too.
	wantGood(t, api.Cert{From: from, To: 4, Sign: signed(t, from, 4)}, api.ErrSign)
	wantGood(t, api.Cert{From: from, To: 4, Sign: signed(t, from, 4, 0)}, api.ErrSign)
	wantGood(t, api.Cert{From: from, To: 4, Sign: signed(t, from, 0, 4)}, api.OK)
}

func TestGoodErrSign(t *testing.T) {
	c := cert(t, 4, 16)
	for s := range order {
		if s != c.Sign.S {
			wantGood(t, api.Cert{From: 4, To: 16, Sign: api.Sign{R: c.Sign.R, S: s}}, api.ErrSign)
		}
	}
	wantGood(t, c, api.OK)
	wantGood(t, bad(t, 4, 16), api.ErrSign)
	wantGood(t, api.Cert{From: 4, To: 64, Sign: c.Sign}, api.ErrSign)
	wantGood(t, api.Cert{From: 16, To: 4, Sign: c.Sign}, api.ErrSign)
	for _, from := range publicKeys() {
		// Another key has the same signature only if the hash is 0.
		if from != 4 {
			wantGood(t, api.Cert{From: from, To: 16, Sign: c.Sign}, api.ErrSign)
		}
	}
	for _, r := range publicKeys() {
		other := api.Cert{From: 4, To: 16, Sign: api.Sign{R: r, S: c.Sign.S}}
		wantGood(t, other, likeGood(other))
	}
}

func TestGoodErrRange(t *testing.T) {
	c := cert(t, 4, 16)
	for _, n := range notPublic() {
		wantGood(t, cert(t, 4, n), api.ErrRange)
		wantGood(t, api.Cert{From: n, To: 16, Sign: c.Sign}, api.ErrRange)
		wantGood(t, api.Cert{From: 4, To: 16, Sign: api.Sign{R: n, S: c.Sign.S}}, api.ErrRange)
		wantGood(t, api.Cert{From: n, To: n, Sign: c.Sign}, api.ErrRange)
	}
	for _, s := range []int{math.MinInt, -order, -1, order, order + 1, c.Sign.S + order, c.Sign.S - order, c.Sign.S + 1<<32, math.MaxInt} {
		wantGood(t, api.Cert{From: 4, To: 16, Sign: api.Sign{R: c.Sign.R, S: s}}, api.ErrRange)
	}
	wantGood(t, api.Cert{}, api.ErrRange)
	wantGood(t, api.Cert{To: 16}, api.ErrRange)
	wantGood(t, api.Cert{From: 4}, api.ErrRange)
	wantGood(t, api.Cert{From: 4, To: 16}, api.ErrRange)
}

func TestGoodErrRangeIsBeforeErrSign(t *testing.T) {
	for _, n := range notPublic() {
		wantGood(t, bad(t, 4, n), api.ErrRange)
		wantGood(t, api.Cert{From: n, To: 16, Sign: api.Sign{R: 4, S: 1}}, api.ErrRange)
	}
	wantGood(t, api.Cert{From: 4, To: 64, Sign: api.Sign{R: 16, S: order}}, api.ErrRange)
	wantGood(t, api.Cert{From: 4, To: 64, Sign: api.Sign{R: 5, S: 1}}, api.ErrRange)
}

func TestReachP6_1(t *testing.T) {
	wantReach(t, 4, nil, []int{4}, api.OK)
	wantReach(t, 4, []api.Cert{}, []int{4}, api.OK)
	wantReach(t, 4, certs(t, []int{4, 16}), []int{4, 16}, api.OK)
	wantReach(t, 16, certs(t, []int{16, 4}), []int{4, 16}, api.OK)
	wantReach(t, 4, certs(t, []int{4, 16, 64, 2}), []int{2, 4, 16, 64}, api.OK)
	wantReach(t, 4, certs(t, []int{64, 2}, []int{16, 64}, []int{4, 16}), []int{2, 4, 16, 64}, api.OK)
	wantReach(t, 16, certs(t, []int{4, 16, 64, 2}), []int{2, 16, 64}, api.OK)
	wantReach(t, 2, certs(t, []int{4, 16, 64, 2}), []int{2}, api.OK)
	wantReach(t, 1024, certs(t, []int{4, 16, 64, 2}), []int{1024}, api.OK)
	wantReach(t, 4, certs(t, []int{4, 9}, []int{4, 100}, []int{4, 25}, []int{25, 2}), []int{2, 4, 9, 25, 100}, api.OK)
}

func TestEveryRootIsTrusted(t *testing.T) {
	for _, root := range publicKeys() {
		wantReach(t, root, nil, []int{root}, api.OK)
		wantPath(t, root, root, nil, []int{root}, api.OK)
	}
}

func TestEveryKeyCanBeReached(t *testing.T) {
	for _, key := range publicKeys() {
		if key != 16 {
			l := certs(t, []int{16, key})
			wantReach(t, 16, l, []int{min(16, key), max(16, key)}, api.OK)
			wantPath(t, 16, key, l, []int{16, key}, api.OK)
			wantReach(t, key, l, []int{key}, api.OK)
			wantPath(t, key, 16, l, nil, api.ErrNone)
		}
	}
}

func TestCircles(t *testing.T) {
	l := certs(t, []int{4, 16, 64, 9, 4}, []int{25, 36, 25}, []int{49, 64})
	for _, root := range []int{4, 16, 64, 9} {
		wantReach(t, root, l, []int{4, 9, 16, 64}, api.OK)
	}
	wantReach(t, 25, l, []int{25, 36}, api.OK)
	wantReach(t, 49, l, []int{4, 9, 16, 49, 64}, api.OK)
	wantPath(t, 4, 9, l, []int{4, 16, 64, 9}, api.OK)
	wantPath(t, 9, 64, l, []int{9, 4, 16, 64}, api.OK)
	wantPath(t, 49, 16, l, []int{49, 64, 9, 4, 16}, api.OK)
	wantPath(t, 16, 16, l, []int{16}, api.OK)
	wantPath(t, 4, 25, l, nil, api.ErrNone)
}

func TestCertificatesByAKeyForItself(t *testing.T) {
	l := certs(t, []int{4, 4}, []int{16, 16}, []int{4, 16}, []int{64, 64})
	wantReach(t, 4, l, []int{4, 16}, api.OK)
	wantReach(t, 16, l, []int{16}, api.OK)
	wantReach(t, 64, l, []int{64}, api.OK)
	wantPath(t, 4, 4, l, []int{4}, api.OK)
	wantPath(t, 4, 16, l, []int{4, 16}, api.OK)
	// 64 is trusted by nobody else.
	wantPath(t, 4, 64, l, nil, api.ErrNone)
}

func TestCertificatesTwice(t *testing.T) {
	l := certs(t, []int{4, 16, 64}, []int{4, 16, 64}, []int{4, 9, 64}, []int{4, 9})
	wantReach(t, 4, l, []int{4, 9, 16, 64}, api.OK)
	wantPath(t, 4, 64, l, []int{4, 9, 64}, api.OK)
	// The same certificate with another nonce.
	s, _ := sign.Make(secretOf[4], 77, []byte{0, 16})
	l = append(certs(t, []int{4, 16}), api.Cert{From: 4, To: 16, Sign: s})
	wantReach(t, 4, l, []int{4, 16}, api.OK)
	wantPath(t, 4, 16, l, []int{4, 16}, api.OK)
}

// notGood are certificates of from for to, each not good in another way.
func notGood(t testing.TB, from, to int) []api.Cert {
	t.Helper()
	c := cert(t, from, to)
	return []api.Cert{
		bad(t, from, to),
		{From: from, To: to},
		{From: from, To: to, Sign: api.Sign{R: c.Sign.R, S: c.Sign.S + order}},
		{From: from, To: to, Sign: api.Sign{R: c.Sign.R, S: c.Sign.S - order}},
		{From: from, To: to, Sign: api.Sign{R: c.Sign.R + prime, S: c.Sign.S}},
		{From: from, To: to, Sign: api.Sign{R: prime - c.Sign.R, S: c.Sign.S}},
		{From: from, To: to, Sign: api.Sign{R: c.Sign.S, S: c.Sign.R}},
		{From: from, To: to, Sign: signed(t, to, byte(to>>8), byte(to))},
		{From: from, To: to, Sign: signed(t, from, byte(from>>8), byte(from))},
		{From: from, To: to, Sign: signed(t, from, byte(to), byte(to>>8))},
		{From: from + prime, To: to, Sign: c.Sign},
		{From: from - prime, To: to, Sign: c.Sign},
		{From: from, To: to + prime, Sign: signed(t, from, byte((to+prime)>>8), byte(to+prime))},
		{From: from, To: to + 1<<16, Sign: c.Sign},
		{From: from, To: prime - to, Sign: signed(t, from, byte((prime-to)>>8), byte(prime-to))},
		{From: to, To: from, Sign: c.Sign},
	}
}

func TestNotGoodIsIgnored(t *testing.T) {
	for _, c := range notGood(t, 4, 1058) {
		if Good(c) == api.OK {
			t.Errorf("%v is good", c)
		}
		l := []api.Cert{c}
		wantReach(t, 4, l, []int{4}, api.OK)
		wantPath(t, 4, 1058, l, nil, api.ErrNone)
		wantPath(t, 1058, 4, l, nil, api.ErrNone)
		wantPath(t, 4, 4, l, []int{4}, api.OK)

		// It is ignored alone, wherever it stands.
		for i := range 4 {
			l := slices.Insert(certs(t, []int{4, 16, 64, 1058}), i, c)
			wantReach(t, 4, l, []int{4, 16, 64, 1058}, api.OK)
			wantPath(t, 4, 1058, l, []int{4, 16, 64, 1058}, api.OK)
		}
		for i := range 2 {
			l := slices.Insert(certs(t, []int{4, 1058}), i, c)
			wantReach(t, 4, l, []int{4, 1058}, api.OK)
			wantPath(t, 4, 1058, l, []int{4, 1058}, api.OK)
		}
	}
	l := notGood(t, 4, 1058)
	wantReach(t, 4, l, []int{4}, api.OK)
	wantReach(t, 4, append(l, cert(t, 4, 1058)), []int{4, 1058}, api.OK)
}

func TestAKeyThatIsNotPublicIsNotTrusted(t *testing.T) {
	for _, n := range notPublic() {
		c := cert(t, 4, n)
		wantReach(t, 4, []api.Cert{c}, []int{4}, api.OK)
		wantPath(t, 4, n, []api.Cert{c}, nil, api.ErrRange)
		// Nor does it lead anywhere.
		l := []api.Cert{c, {From: n, To: 16, Sign: api.Sign{R: 4, S: 1}}, {From: n, To: 64, Sign: c.Sign}}
		wantReach(t, 4, l, []int{4}, api.OK)
		wantPath(t, 4, 16, l, nil, api.ErrNone)
	}
}

func TestABrokenChain(t *testing.T) {
	l := certs(t, []int{4, 16, 64, 9, 25})
	for i := range l {
		broken := slices.Clone(l)
		broken[i] = bad(t, l[i].From, l[i].To)
		want := []int{4, 16, 64, 9, 25}[:i+1]
		wantPath(t, 4, 25, broken, nil, api.ErrNone)
		wantPath(t, 4, want[i], broken, want, api.OK)
		slices.Sort(want)
		wantReach(t, 4, broken, want, api.OK)
	}
}

func TestPathP6_2(t *testing.T) {
	l := certs(t, []int{4, 16, 64, 2})
	wantPath(t, 4, 4, l, []int{4}, api.OK)
	wantPath(t, 4, 16, l, []int{4, 16}, api.OK)
	wantPath(t, 4, 64, l, []int{4, 16, 64}, api.OK)
	wantPath(t, 4, 2, l, []int{4, 16, 64, 2}, api.OK)
	wantPath(t, 64, 2, l, []int{64, 2}, api.OK)
	wantPath(t, 2, 2, l, []int{2}, api.OK)
	wantPath(t, 2, 4, l, nil, api.ErrNone)
	wantPath(t, 16, 4, l, nil, api.ErrNone)
	wantPath(t, 4, 1024, l, nil, api.ErrNone)
	wantPath(t, 1024, 4, l, nil, api.ErrNone)
	wantPath(t, 1024, 1024, l, []int{1024}, api.OK)
	slices.Reverse(l)
	wantPath(t, 4, 2, l, []int{4, 16, 64, 2}, api.OK)
}

// permutations calls do with each order of the certificates.
func permutations(l []api.Cert, do func([]api.Cert)) {
	var place func(int)
	place = func(at int) {
		if at == len(l) {
			do(slices.Clone(l))
			return
		}
		for i := at; i < len(l); i++ {
			l[at], l[i] = l[i], l[at]
			place(at + 1)
			l[at], l[i] = l[i], l[at]
		}
	}
	place(0)
}

func TestPathInAnyOrder(t *testing.T) {
	for _, row := range []struct {
		why    string
		chains [][]int
		want   []int
	}{
		{"the shortest", [][]int{{1024, 2, 4, 9}, {1024, 16, 9}}, []int{1024, 16, 9}},
		{"shorter by far", [][]int{{4, 2, 9, 16, 25, 64}, {4, 64}}, []int{4, 64}},
		{"the smallest", [][]int{{4, 64, 9}, {4, 16, 9}, {4, 25, 9}}, []int{4, 16, 9}},
		{"numbers, not digits", [][]int{{4, 100, 2}, {4, 9, 2}, {4, 1024, 2}}, []int{4, 9, 2}},
		{"the first key decides", [][]int{{4, 9, 64, 100}, {4, 16, 2, 100}}, []int{4, 9, 64, 100}},
		{"then the second", [][]int{{4, 9, 64, 100}, {9, 25, 100}, {9, 49, 100}}, []int{4, 9, 25, 100}},
		{"not the smallest last one", [][]int{{4, 9, 25, 100}, {4, 16, 2, 100}}, []int{4, 9, 25, 100}},
		{"not the smallest first one", [][]int{{4, 2, 9, 25}, {4, 16, 100}, {25, 100}}, []int{4, 16, 100}},
		{"two that meet", [][]int{{4, 9, 25, 100}, {4, 16, 25}}, []int{4, 9, 25, 100}},
		{"small, but nowhere", [][]int{{4, 2}, {4, 9, 2}, {4, 16, 100}}, []int{4, 16, 100}},
		{"by way of root", [][]int{{16, 9, 16, 2, 16}, {16, 25, 2, 100}}, []int{16, 2, 100}},
		{"larger than root", [][]int{{1024, 2, 1056}, {1024, 1028, 1056}}, []int{1024, 2, 1056}},
	} {
		l := certs(t, row.chains...)
		for _, c := range l {
			if Good(c) != api.OK {
				t.Fatalf("%s: %v is not good", row.why, c)
			}
		}
		permutations(l, func(l []api.Cert) {
			root, key := row.want[0], row.want[len(row.want)-1]
			if got, e := Path(root, key, l); !slices.Equal(got, row.want) || e != api.OK {
				t.Errorf("%s: Path(%d, %d, %v): %v %d, want %v", row.why, root, key, l, got, e, row.want)
			}
			if got, e := Reach(root, l); !slices.Equal(got, likeReach(root, l)) || e != api.OK {
				t.Errorf("%s: Reach(%d, %v): %v %d", row.why, root, l, got, e)
			}
		})
	}
}

func TestPathThroughManyKeys(t *testing.T) {
	// Of 29 keys between root and the last one, the smallest is on the path.
	keys := publicKeys()[100:129]
	var l []api.Cert
	for _, key := range keys {
		l = append(l, certs(t, []int{4, key, 2})...)
	}
	want := []int{4, keys[0], 2}
	random := rand.New(rand.NewSource(3))
	for range 100 {
		wantPath(t, 4, 2, l, want, api.OK)
		wantReach(t, 4, l, append([]int{2, 4}, keys...), api.OK)
		random.Shuffle(len(l), func(i, j int) { l[i], l[j] = l[j], l[i] })
	}
	for i, key := range keys[:len(keys)-1] {
		for j, c := range l {
			if c.From == 4 && c.To == key {
				l[j] = bad(t, 4, key)
			}
		}
		wantPath(t, 4, 2, l, []int{4, keys[i+1], 2}, api.OK)
	}
}

func TestErrSize(t *testing.T) {
	keys := publicKeys()[500 : 500+api.MaxList+2]
	for _, chain := range [][]int{keys, reversed(keys)} {
		l := certs(t, chain)
		full := l[:api.MaxList]
		reached := slices.Clone(chain[:api.MaxList+1])
		wantPath(t, chain[0], chain[api.MaxList], full, reached, api.OK)
		wantPath(t, chain[0], chain[api.MaxList+1], full, nil, api.ErrNone)
		slices.Sort(reached)
		wantReach(t, chain[0], full, reached, api.OK)
		wantNone(t, chain[0], chain[api.MaxList], l, api.ErrSize)
		wantNone(t, chain[0], chain[0], l, api.ErrSize)
		slices.Reverse(full)
		wantReach(t, chain[0], full, reached, api.OK)
		wantPath(t, chain[0], chain[api.MaxList], full, chain[:api.MaxList+1], api.OK)
	}
}

func reversed(l []int) []int {
	l = slices.Clone(l)
	slices.Reverse(l)
	return l
}

func TestErrSizeOfAStar(t *testing.T) {
	keys := publicKeys()[1000 : 1000+api.MaxList+1]
	var l []api.Cert
	for _, key := range reversed(keys) {
		l = append(l, cert(t, 4, key))
	}
	wantReach(t, 4, l[1:], append([]int{4}, keys[:api.MaxList]...), api.OK)
	wantPath(t, 4, keys[0], l[1:], []int{4, keys[0]}, api.OK)
	wantNone(t, 4, keys[0], l, api.ErrSize)
}

func TestErrSizeCountsEveryCertificate(t *testing.T) {
	// Those that are not good count, and so do those that stand twice.
	for _, c := range []api.Cert{{}, bad(t, 4, 16), cert(t, 4, 16), cert(t, 4, 4), cert(t, 64, 9)} {
		l := slices.Repeat([]api.Cert{c}, api.MaxList+1)
		wantNone(t, 4, 4, l, api.ErrSize)
		wantNone(t, 4, 4, slices.Repeat(l, 1000), api.ErrSize)
		wantReach(t, 4, l[1:], likeReach(4, l), api.OK)
		wantPath(t, 4, 4, l[1:], []int{4}, api.OK)
	}
}

func TestErrSizeIsFirst(t *testing.T) {
	l := slices.Repeat(certs(t, []int{4, 16}), api.MaxList+1)
	for _, n := range notPublic() {
		wantNone(t, n, n, l, api.ErrSize)
		wantNone(t, n, 16, l, api.ErrSize)
		wantPath(t, 4, n, l, nil, api.ErrSize)
	}
	wantPath(t, 4, 64, l, nil, api.ErrSize)
}

func TestErrRangeOfRoot(t *testing.T) {
	for _, n := range notPublic() {
		for _, l := range [][]api.Cert{nil, certs(t, []int{4, 16}), {cert(t, 4, n)}, {{From: n, To: 16, Sign: api.Sign{R: 4}}}, {{}}} {
			wantNone(t, n, 4, l, api.ErrRange)
			wantNone(t, n, 16, l, api.ErrRange)
			wantNone(t, n, n, l, api.ErrRange)
			wantNone(t, n, 1024, l, api.ErrRange)
		}
	}
}

func TestErrRangeOfKeyIsBeforeErrNone(t *testing.T) {
	l := certs(t, []int{4, 16})
	for _, n := range notPublic() {
		wantPath(t, 4, n, l, nil, api.ErrRange)
		wantPath(t, 4, n, nil, nil, api.ErrRange)
	}
}

func TestErrNone(t *testing.T) {
	l := certs(t, []int{4, 16, 64}, []int{9, 4}, []int{25, 49})
	for _, key := range publicKeys() {
		if !slices.Contains([]int{4, 16, 64}, key) {
			wantPath(t, 4, key, l, nil, api.ErrNone)
			wantPath(t, 4, key, nil, nil, api.ErrNone)
		}
	}
}

// marked returns the certificates in a list with spare capacity, and the whole
// of its memory.
func marked(l []api.Cert) (list, whole []api.Cert) {
	whole = make([]api.Cert, len(l)+8)
	for i := range whole {
		whole[i] = api.Cert{From: -7, To: -8, Sign: api.Sign{R: -9, S: i}}
	}
	copy(whole[4:], l)
	return whole[4 : 4+len(l)], whole
}

func TestListsStayAsTheyAre(t *testing.T) {
	for _, l := range [][]api.Cert{
		nil, certs(t, []int{4, 1024, 64, 16, 4, 64, 2, 4, 9}), append(notGood(t, 4, 16), certs(t, []int{4, 64, 2})...),
		slices.Repeat(certs(t, []int{4, 16}), api.MaxList), slices.Repeat(certs(t, []int{4, 16}), api.MaxList+1),
	} {
		list, whole := marked(l)
		was := slices.Clone(whole)
		for _, root := range []int{4, 64, 0, 5} {
			Reach(root, list)
			for _, key := range []int{4, 64, 2, 0, 5, 1024, 1028} {
				Path(root, key, list)
			}
		}
		if !slices.Equal(whole, was) {
			t.Errorf("%v was %v", whole, was)
		}
	}
}

func TestResultsShareNoMemory(t *testing.T) {
	l := certs(t, []int{4, 16, 64, 2}, []int{4, 9})
	reach, _ := Reach(4, l)
	path, _ := Path(4, 2, l)
	alone, _ := Path(4, 4, l)
	for _, list := range [][]int{reach, path, alone} {
		list = list[:cap(list)]
		for i := range list {
			list[i] = -1
		}
	}
	wantReach(t, 4, l, []int{2, 4, 9, 16, 64}, api.OK)
	wantPath(t, 4, 2, l, []int{4, 16, 64, 2}, api.OK)
	wantPath(t, 4, 4, l, []int{4}, api.OK)

	first, _ := Path(4, 2, l)
	second, _ := Path(4, 2, l)
	other, _ := Reach(4, l)
	for _, list := range [][]int{second, other} {
		list = list[:cap(list)]
		for i := range list {
			list[i] = -1
		}
	}
	if !slices.Equal(first, []int{4, 16, 64, 2}) {
		t.Errorf("the first path became %v", first)
	}
}

func TestNothingIsKept(t *testing.T) {
	l := certs(t, []int{4, 16, 64})
	wantPath(t, 4, 64, l, []int{4, 16, 64}, api.OK)
	l[0] = cert(t, 4, 9)
	wantReach(t, 4, l, []int{4, 9}, api.OK)
	wantPath(t, 4, 64, l, nil, api.ErrNone)
	l[1] = cert(t, 9, 64)
	wantPath(t, 4, 64, l, []int{4, 9, 64}, api.OK)
	wantReach(t, 4, nil, []int{4}, api.OK)
}

func bigPower(n, exponent int) int {
	return int(new(big.Int).Exp(big.NewInt(int64(n)), big.NewInt(int64(exponent)), big.NewInt(prime)).Int64())
}

func likePublic(n int) bool {
	return n >= 2 && n <= prime-1 && bigPower(n, order) == 1
}

// likeGood, likeReach and likePath say what the chapter says once more.
func likeGood(c api.Cert) api.Errno {
	r, s := c.Sign.R, c.Sign.S
	if !likePublic(c.To) || !likePublic(c.From) || !likePublic(r) || s < 0 || s >= order {
		return api.ErrRange
	}
	hash := ((r*257+c.To/256+1)*257 + c.To%256 + 1) % order
	if bigPower(api.Base, s) != r*bigPower(c.From, hash)%prime {
		return api.ErrSign
	}
	return api.OK
}

// likeReach asks for each public key that a certificate names whether a
// certificate of a trusted key is for it, until there is no more.
func likeReach(root int, l []api.Cert) []int {
	trusted := []int{root}
	for i := 0; i < len(l); i++ {
		if c := l[i]; likeGood(c) == api.OK && slices.Contains(trusted, c.From) && !slices.Contains(trusted, c.To) {
			trusted = append(trusted, c.To)
			i = -1
		}
	}
	slices.Sort(trusted)
	return trusted
}

// likePath keeps for each key the best path that is known and replaces it as
// long as there is a better one.
func likePath(root, key int, l []api.Cert) ([]int, api.Errno) {
	best := map[int][]int{root: {root}}
	for i := 0; i < len(l); i++ {
		if likeGood(l[i]) != api.OK || best[l[i].From] == nil {
			continue
		}
		path := append(slices.Clone(best[l[i].From]), l[i].To)
		if old := best[l[i].To]; old == nil || len(path) < len(old) || len(path) == len(old) && slices.Compare(path, old) < 0 {
			best[l[i].To] = path
			i = -1
		}
	}
	if best[key] == nil {
		return nil, api.ErrNone
	}
	return best[key], api.OK
}

// everyPath returns all paths without circles from root to key.
func everyPath(root, key int, l []api.Cert) [][]int {
	var found [][]int
	var walk func([]int)
	walk = func(path []int) {
		last := path[len(path)-1]
		if last == key {
			found = append(found, slices.Clone(path))
			return
		}
		for _, c := range l {
			if c.From == last && !slices.Contains(path, c.To) && likeGood(c) == api.OK {
				walk(append(slices.Clone(path), c.To))
			}
		}
	}
	walk([]int{root})
	return found
}

func wantAllLike(t *testing.T, root, key int, l []api.Cert) {
	t.Helper()
	for _, c := range l {
		wantGood(t, c, likeGood(c))
	}
	switch {
	case len(l) > api.MaxList:
		wantNone(t, root, key, l, api.ErrSize)
	case !likePublic(root):
		wantNone(t, root, key, l, api.ErrRange)
	default:
		wantReach(t, root, l, likeReach(root, l), api.OK)
		path, code := likePath(root, key, l)
		if !likePublic(key) {
			path, code = nil, api.ErrRange
		}
		wantPath(t, root, key, l, path, code)
	}
}

// someCerts returns n certificates among the keys, most of them good.
func someCerts(t testing.TB, random *rand.Rand, keys []int, n int) []api.Cert {
	var l []api.Cert
	for range n {
		from, to := keys[random.Intn(len(keys))], keys[random.Intn(len(keys))]
		c := cert(t, from, to)
		if random.Intn(6) == 0 {
			ways := notGood(t, from, to)
			c = ways[random.Intn(len(ways))]
		}
		l = append(l, c)
	}
	return l
}

func TestManyGraphs(t *testing.T) {
	random := rand.New(rand.NewSource(1))
	all := publicKeys()
	for range 1500 {
		keys := make([]int, 2+random.Intn(30))
		for i := range keys {
			keys[i] = all[random.Intn(len(all))]
		}
		l := someCerts(t, random, keys, random.Intn(api.MaxList+2))
		wantAllLike(t, keys[0], keys[len(keys)-1], l)
		wantAllLike(t, keys[1], keys[0], l)
	}
}

func TestEveryPathOfSmallGraphs(t *testing.T) {
	random := rand.New(rand.NewSource(2))
	keys := []int{2, 9, 16, 100, 1024, 4}
	for range 1500 {
		l := someCerts(t, random, keys, 3+random.Intn(12))
		paths := everyPath(4, 2, l)
		if len(paths) == 0 {
			wantPath(t, 4, 2, l, nil, api.ErrNone)
			continue
		}
		best := slices.MinFunc(paths, func(a, b []int) int {
			if len(a) != len(b) {
				return len(a) - len(b)
			}
			return slices.Compare(a, b)
		})
		wantPath(t, 4, 2, l, best, api.OK)
	}
}

func FuzzTrust(f *testing.F) {
	f.Add(4, 16, []byte{0, 1, 9, 0, 1, 2, 9, 0, 2, 0, 9, 1}, 4, 16, 4, 1)
	f.Add(4, 64, []byte{}, 0, 0, 0, 0)
	f.Add(0, prime, []byte{0, 0, 0, 0}, -1, 1<<16+4, prime, order)
	f.Fuzz(func(t *testing.T, root, key int, edges []byte, from, to, r, s int) {
		keys := []int{4, 16, 64, 2, 9, 1024, 1056, 25, root, key, from, to}
		l := []api.Cert{{From: from, To: to, Sign: api.Sign{R: r, S: s}}}
		for ; len(edges) >= 4 && len(l) < api.MaxList+2; edges = edges[4:] {
			c := api.Cert{From: keys[int(edges[0])%len(keys)], To: keys[int(edges[1])%len(keys)]}
			if x := secretOf[c.From]; x > 0 {
				c.Sign, _ = sign.Make(x, 1+int(edges[2]), []byte{byte(c.To >> 8), byte(c.To)})
			}
			if edges[3]%8 == 7 {
				c.Sign.S += int(edges[3])
			}
			l = append(l, c)
		}
		wantAllLike(t, root, key, l)
	})
}
