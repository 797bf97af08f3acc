package base

import (
	"bytes"
	"encoding/base64"
	"strings"
	"testing"

	"bagnall/api"
)

// pairs of bytes and their encodings: they hold in both directions.
var pairs = []struct {
	plain []byte
	text  string
}{
	{[]byte{}, ""},
	{[]byte{0}, "AA"},
	{[]byte{0, 0}, "AAA"},
	{[]byte{0, 0, 0}, "AAAA"},
	{[]byte{255}, "/w"},
	{[]byte{255, 255}, "//8"},
	{[]byte{255, 255, 255}, "////"},
	{[]byte{1}, "AQ"},
	{[]byte{0, 1}, "AAE"},
	{[]byte{0, 0, 1}, "AAAB"},
	{[]byte{128, 0, 0}, "gAAA"},
	{[]byte{251, 239, 190}, "++++"},
	{[]byte("M"), "TQ"},
	{[]byte("Ma"), "TWE"},
	{[]byte("Man"), "TWFu"},
	{[]byte("Many"), "TWFueQ"},
	{[]byte("Many "), "TWFueSA"},
	{[]byte("Many h"), "TWFueSBo"},
}

// sample returns n bytes that take on many values.
func sample(n int) []byte {
	b := make([]byte, n)
	for i := range b {
		b[i] = byte(i*i*7 + i*31 + 5)
	}
	return b
}

func wantText(t *testing.T, b []byte, want string, code api.Errno) {
	t.Helper()
	got, e := Text(b)
	if got != want || e != code {
		t.Errorf("Text(%d bytes %v): %q %d, want %q %d", len(b), b, got, e, want, code)
	}
}

func wantBytes(t *testing.T, s string, want []byte, code api.Errno) {
	t.Helper()
	got, e := Bytes(s)
	if !bytes.Equal(got, want) || e != code {
		t.Errorf("Bytes(%d bytes %q): %v %d, want %v %d", len(s), s, got, e, want, code)
	}
}

func TestTextP1_1(t *testing.T) {
	wantText(t, nil, "", api.OK)
	for _, p := range pairs {
		wantText(t, p.plain, p.text, api.OK)
	}
}

func TestBytesP1_2(t *testing.T) {
	for _, p := range pairs {
		wantBytes(t, p.text, p.plain, api.OK)
	}
}

func TestAllDigits(t *testing.T) {
	const all = "ABCDEFGHIJKLMNOPQRSTUVWXYZabcdefghijklmnopqrstuvwxyz0123456789+/"
	for i := range len(all) {
		// Three bytes whose digits are i, 0, 0 and i.
		b := []byte{byte(i << 2), 0, byte(i)}
		text := all[i:i+1] + "AA" + all[i:i+1]
		wantText(t, b, text, api.OK)
		wantBytes(t, text, b, api.OK)
	}
	var b []byte
	for i := 0; i < 64; i += 4 {
		n := i<<18 | (i+1)<<12 | (i+2)<<6 | (i + 3)
		b = append(b, byte(n>>16), byte(n>>8), byte(n))
	}
	wantText(t, b, all, api.OK)
	wantBytes(t, all, b, api.OK)
}

func TestTextOfEveryLength(t *testing.T) {
	for n := range api.MaxText + 1 {
		b := sample(n)
		wantText(t, b, base64.RawStdEncoding.EncodeToString(b), api.OK)
	}
}

func TestTextTooLong(t *testing.T) {
	wantText(t, make([]byte, api.MaxText), strings.Repeat("A", api.MaxText*4/3), api.OK)
	for _, n := range []int{api.MaxText + 1, api.MaxText + 2, api.MaxText + 3, 2 * api.MaxText, 1 << 20} {
		wantText(t, make([]byte, n), "", api.ErrSize)
	}
}

// The bytes may be more than Text would take: only the text has a limit.
func TestBytesOfEveryLength(t *testing.T) {
	for n := range 2*api.MaxText*3/4 + 1 {
		b := sample(n)
		wantBytes(t, base64.RawStdEncoding.EncodeToString(b), b, api.OK)
	}
}

func TestBytesTooLong(t *testing.T) {
	const most = 2 * api.MaxText
	wantBytes(t, strings.Repeat("A", most), make([]byte, most*3/4), api.OK)
	wantBytes(t, strings.Repeat("A", most-1)+"B", append(make([]byte, most*3/4-1), 1), api.OK)
	for _, n := range []int{most + 1, most + 2, most + 4, 1 << 20} {
		wantBytes(t, strings.Repeat("A", n), nil, api.ErrSize)
	}
}

func TestBytesSizeComesBeforeForm(t *testing.T) {
	const most = 2 * api.MaxText
	wantBytes(t, strings.Repeat("!", most), nil, api.ErrForm)
	wantBytes(t, strings.Repeat("A", most-1)+"=", nil, api.ErrForm)
	wantBytes(t, strings.Repeat("!", most+1), nil, api.ErrSize)
	wantBytes(t, strings.Repeat("A", most)+"=", nil, api.ErrSize)
}

func TestBytesOfALengthThatNoEncodingHas(t *testing.T) {
	for n := 1; n < 2*api.MaxText; n += 4 {
		wantBytes(t, strings.Repeat("A", n), nil, api.ErrForm)
	}
	wantBytes(t, "T", nil, api.ErrForm)
	wantBytes(t, "/", nil, api.ErrForm)
	wantBytes(t, "TWFuT", nil, api.ErrForm)
}

func TestBytesOfWhatIsNoDigit(t *testing.T) {
	for c := range 256 {
		digit := c >= 'A' && c <= 'Z' || c >= 'a' && c <= 'z' || c >= '0' && c <= '9' || c == '+' || c == '/'
		if digit {
			continue
		}
		for _, text := range []string{"A", "AA", "AAA", "AAAA", "AAAAAA", "AAAAAAA"} {
			for i := range len(text) {
				b := []byte(text)
				b[i] = byte(c)
				wantBytes(t, string(b), nil, api.ErrForm)
			}
		}
	}
}

func TestBytesOfOtherForms(t *testing.T) {
	for _, s := range []string{
		"AA==", "AAA=", "AA=", "AAA==", "AAAA====", "=", "====", // padding
		"-w", "_w", "__8", // the digits of the other alphabet
		"TWFu\n", "\nTWFu", "TW\nFu", "TW\r\nFu", "TW Fu", " TQ", "TQ ", "\tTQ",
		"TQ\x00", "\x00\x00", "\xff\xff\xff\xff", "é", "ſſ", "Ａ", "TW\u200bFu", "TQ,TQ",
	} {
		wantBytes(t, s, nil, api.ErrForm)
	}
}

func TestBytesUnusedBits(t *testing.T) {
	for _, s := range []string{"AB", "AI", "A/", "//", "AAB", "AAC", "AA/", "TWF", "TWFuAB", "TWFuAAB", "AAAAA/"} {
		wantBytes(t, s, nil, api.ErrForm)
	}
}

// Of all texts of two digits or three, just one stands for each value of the bytes.
func TestBytesOfAllShortTexts(t *testing.T) {
	good := 0
	for i := range 64 {
		for j := range 64 {
			two := digits[i:i+1] + digits[j:j+1]
			if j%16 == 0 {
				wantBytes(t, two, []byte{byte(i<<2 | j>>4)}, api.OK)
				good++
			} else {
				wantBytes(t, two, nil, api.ErrForm)
			}
			for k := range 64 {
				three := two + digits[k:k+1]
				if k%4 == 0 {
					wantBytes(t, three, []byte{byte(i<<2 | j>>4), byte(j<<4 | k>>2)}, api.OK)
					good++
				} else {
					wantBytes(t, three, nil, api.ErrForm)
				}
			}
		}
	}
	if good != 1<<8+1<<16 {
		t.Errorf("%d short texts are encodings", good)
	}
}

func TestTextKeepsItsArgument(t *testing.T) {
	for n := range 10 {
		whole := bytes.Repeat([]byte{0xa5}, n+10)
		b := whole[:n]
		text, _ := Text(b)
		if !bytes.Equal(whole, bytes.Repeat([]byte{0xa5}, n+10)) {
			t.Errorf("Text changed its argument of %d bytes, or what is behind it", n)
		}
		want := strings.Clone(text)
		clear(whole)
		if text != want {
			t.Errorf("the text of %d bytes changed together with them", n)
		}
	}
}

func TestBytesReturnsNewMemory(t *testing.T) {
	for _, p := range pairs {
		one, _ := Bytes(p.text)
		two, _ := Bytes(p.text)
		one = one[:cap(one)]
		for i := range one {
			one[i] ^= 0xff
		}
		if !bytes.Equal(two, p.plain) {
			t.Errorf("two results of Bytes(%q) share memory", p.text)
		}
		wantBytes(t, p.text, p.plain, api.OK)
	}
}

func FuzzBytes(f *testing.F) {
	for _, p := range pairs {
		f.Add(p.text)
	}
	f.Add("AB")
	f.Add("AA==")
	f.Fuzz(func(t *testing.T, s string) {
		b, e := Bytes(s)
		switch {
		case len(s) > 2*api.MaxText:
			wantBytes(t, s, nil, api.ErrSize)
		case e == api.OK:
			if again := base64.RawStdEncoding.EncodeToString(b); again != s {
				t.Errorf("Bytes(%q): %v, whose encoding is %q", s, b, again)
			}
		default:
			wantBytes(t, s, nil, api.ErrForm)
			// The library passes over line breaks, which are no digits.
			plain, err := base64.RawStdEncoding.Strict().DecodeString(s)
			if err == nil && !strings.ContainsAny(s, "\r\n") {
				t.Errorf("Bytes(%q): ErrForm, but it is the encoding of %v", s, plain)
			}
		}
	})
}
