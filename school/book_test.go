package school_test

import (
	"fmt"
	"math"
	"math/big"
	"slices"
	"strings"
	"testing"

	"vyakarana/api"
	"vyakarana/school"
)

// someTexts are texts that may be those of orders in a book, also such as are no orders.
func someTexts() []string {
	return []string{"say", "learn 0", "s", " ", "  ", " say", "say ", "a b c", "\x00", "\xff\xfe", "\r", "\t", "0", "686971", "686971 say", "\u00e9\u0661", strings.Repeat("x", 30), strings.Repeat(" ", 30), strings.Repeat("\xff", 30), "read 012345"}
}

// badTexts are texts that may not be those of orders in a book.
func badTexts() []string {
	return []string{"", "\n", "say\n", "\nsay", "a\nb", strings.Repeat("x", 31), strings.Repeat("x", 30) + "\n", strings.Repeat("\u00e9", 16), strings.Repeat("step ", 1000)}
}

func TestSum(t *testing.T) { // P9.4
	for _, c := range []struct {
		before int
		text   string
		want   int
	}{
		{0, "", 0}, {5, "", 5}, {1000002, "", 1000002}, {1000003, "", 0}, {1000004, "", 1}, {-1, "", 1000002}, {-1000003, "", 0}, {-1000004, "", 1000002},
		{0, "\x00", 1}, {0, "\xff", 256}, {1, "\x00", 258}, {1000002, "\x00", 999747}, {-1, "\x00", 999747}, {1000003, "a", 98}, {0, "say", 686971}, {0, "\n", 11},
	} {
		if n := school.Sum(c.before, c.text); n != c.want {
			t.Errorf("%d %q: %d, not %d", c.before, c.text, n, c.want)
		}
	}
	modulus := big.NewInt(1000003)
	texts := append(append(someTexts(), badTexts()...), strings.Repeat("\xff\x00\xfe", 5000))
	for _, before := range []int{0, 1, -1, 257, 999999, 123456789, -123456789, math.MaxInt, math.MinInt, math.MaxInt - 1, math.MinInt + 1} {
		for _, text := range texts {
			n := big.NewInt(int64(before))
			for _, b := range []byte(text) {
				n.Mod(n.Mul(n, big.NewInt(257)).Add(n, big.NewInt(int64(b)+1)), modulus)
			}
			if want := int(n.Mod(n, modulus).Int64()); school.Sum(before, text) != want {
				t.Errorf("%d %q: %d, not %d", before, text, school.Sum(before, text), want)
			}
		}
	}
}

func TestWrite(t *testing.T) { // P9.4
	for _, c := range []struct {
		orders []string
		want   string
		e      api.Errno
	}{
		{nil, "", api.OK},
		{[]string{"say"}, "686971 say\n", api.OK},
		{someTexts(), bookOf(someTexts()), api.OK},
		{times(100, "say"), bookOf(times(100, "say")), api.OK},
		{times(100, strings.Repeat("\xff", 30)), bookOf(times(100, strings.Repeat("\xff", 30))), api.OK},
		{times(101, "say"), "", api.ErrLarge},
		// Too many are named before one that is no such text.
		{times(101, ""), "", api.ErrLarge},
		{times(100, ""), "", api.ErrArg},
	} {
		if book, e := school.Write(c.orders); book != c.want || e != c.e {
			t.Errorf("%q: %q %v, not %q %v", c.orders, book, e, c.want, c.e)
		}
	}
	for _, bad := range badTexts() {
		for i := range 3 {
			if book, e := school.Write(slices.Insert([]string{"say", "end"}, i, bad)); book != "" || e != api.ErrArg {
				t.Errorf("%q: %q %v", bad, book, e)
			}
		}
	}
}

// isRead checks what is read of a text.
func isRead(t *testing.T, text string, orders []string, rest string) {
	t.Helper()
	if o, r := school.Read(text); !slices.Equal(o, orders) || r != rest {
		t.Fatalf("%q: %q %q, not %q %q", text, o, r, orders, rest)
	}
}

func TestRead(t *testing.T) { // P9.4
	say := "686971 say\n"
	texts := someTexts()
	isRead(t, "", nil, "")
	isRead(t, say, []string{"say"}, "")
	isRead(t, bookOf(texts), texts, "")
	for _, x := range []string{"\n", " ", "x", "say", "686971 say", "0 \n", "0\n", " \n", "1", "\x00"} {
		isRead(t, x+bookOf(texts), nil, x+bookOf(texts))
		isRead(t, bookOf(texts)+x, texts, x)
	}
	for _, wrong := range []string{
		"686971 say", "686971  say\n", " 686971 say\n", "0686971 say\n", "+686971 say\n", "-686971 say\n", "686971\tsay\n", "686971say\n", "686971 say \n", "686971 say\r\n", "686972 say\n",
		"1686974 say\n", "-313032 say\n", "\n", " \n", "0 \n", "686971\n", "686971 \n", "say\n", "say say\n", "686971.0 say\n", "6.86971e5 say\n", "0xa7b7b say\n", "\n686971 say\n", "99999999999999999999999 say\n",
	} {
		isRead(t, wrong, nil, wrong)
		isRead(t, wrong+say, nil, wrong+say)
		isRead(t, say+wrong, []string{"say"}, wrong)
	}
	// The sum goes on from line to line.
	isRead(t, say+say, []string{"say"}, say)
	for _, bad := range badTexts() {
		line := fmt.Sprintf("%d %s\n", sumOf(0, bad), bad)
		isRead(t, line, nil, line)
	}
	// There are small sums, and none has zeros in front.
	isRead(t, "1 \x00\n", []string{"\x00"}, "")
	isRead(t, "01 \x00\n", nil, "01 \x00\n")
	isRead(t, "1000004 \x00\n", nil, "1000004 \x00\n")
}

func TestReadMaxPages(t *testing.T) { // P9.4
	for _, o := range []string{"say", strings.Repeat("\xff", 30)} {
		full := bookOf(times(100, o))
		isRead(t, full, times(100, o), "")
		for n := 101; n <= 103; n++ {
			more := bookOf(times(n, o))
			isRead(t, more, times(100, o), more[len(full):])
		}
		isRead(t, full+"x", times(100, o), "x")
	}
}

// readPlainly returns the orders of the longest beginning that is a book, by writing what could be its orders.
func readPlainly(text string) ([]string, string) {
	for n := len(text); n > 0; n-- {
		if text[n-1] != '\n' {
			continue
		}
		var list []string
		for line := range strings.SplitSeq(text[:n-1], "\n") {
			_, order, _ := strings.Cut(line, " ")
			list = append(list, order)
		}
		if book, e := school.Write(list); e == api.OK && book == text[:n] {
			return list, text[n:]
		}
	}
	return nil, text
}

func TestReadTorn(t *testing.T) { // P9.4: books that are cut off or altered at each of their bytes
	for _, list := range [][]string{{"say"}, {"learn 0", "read 00", "end", "say"}, {" ", "  ", "x  y", "\x00"}, someTexts()} {
		book, _ := school.Write(list)
		for i := range len(book) + 1 {
			for _, text := range []string{book[:i], book[i:], book[:i] + " " + book[i:], book[:i] + "\n" + book[i:], book[:i] + "0" + book[i:]} {
				want, rest := readPlainly(text)
				isRead(t, text, want, rest)
			}
			for _, b := range []byte("\n 019s\x00\xff") {
				if i < len(book) {
					text := book[:i] + string([]byte{b}) + book[i+1:]
					want, rest := readPlainly(text)
					isRead(t, text, want, rest)
				}
			}
		}
	}
}

func TestMerge(t *testing.T) { // P9.5
	a, b, c := []string{"learn 0", "read 0", "end"}, []string{"learn 0", "read 0", "step"}, []string{"x", " "}
	for _, k := range []struct {
		a, b   []string
		want   []string
		number int
		e      api.Errno
	}{
		{nil, nil, nil, 0, api.OK},
		{a, nil, a, 3, api.OK},
		{nil, a, a, 3, api.OK},
		{a, a, a, 3, api.OK},
		{a[:1], a, a, 3, api.OK},
		{a, a[:2], a, 3, api.OK},
		{c, c[:1], c, 2, api.OK},
		{a, b, nil, 2, api.ErrProof},
		{b, a, nil, 2, api.ErrProof},
		{a, a[1:], nil, 0, api.ErrProof},
		{a[:1], c, nil, 0, api.ErrProof},
		{a, []string{"learn 0", "end"}, nil, 1, api.ErrProof},
		{[]string{"learn 0", "end"}, a, nil, 1, api.ErrProof},
		{times(100, "say"), times(99, "say"), times(100, "say"), 100, api.OK},
		{times(100, "say"), append(times(99, "say"), "end"), nil, 99, api.ErrProof},
		{times(101, "say"), times(100, "say"), nil, 0, api.ErrBroken},
		{times(2, "say"), times(101, "say"), nil, 0, api.ErrBroken},
	} {
		if book, n, e := school.Merge(bookOf(k.a), bookOf(k.b)); book != bookOf(k.want) || n != k.number || e != k.e {
			t.Errorf("%q, %q: %q %d %v", k.a, k.b, book, n, e)
		}
	}
	// A rest is named before a difference.
	for _, torn := range []string{"x", "\n", bookOf(a) + " ", bookOf(a)[1:], strings.TrimSuffix(bookOf(b), "\n"), strings.Replace(bookOf(b), "step", "stop", 1), bookOf(c) + bookOf(c)} {
		for _, good := range []string{"", bookOf(a), bookOf(c), torn} {
			book, n, e := school.Merge(torn, good)
			other, m, f := school.Merge(good, torn)
			if book+other != "" || n != 0 || m != 0 || e != api.ErrBroken || f != api.ErrBroken {
				t.Errorf("%q, %q: %q %d %v, %q %d %v", torn, good, book, n, e, other, m, f)
			}
		}
	}
}
