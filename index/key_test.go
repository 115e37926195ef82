package index_test

import (
	"strings"
	"testing"

	"decamp/index"
)

// P15.1: a key has bytes from 33 to 126: each byte alone, ahead of, among and behind others.
func TestKeyBytes(t *testing.T) {
	for b := range 256 {
		want := b >= 33 && b <= 126
		one := string([]byte{byte(b)})
		for _, s := range []string{one, one + "k", "k" + one, "k" + one + "k", strings.Repeat("k", 31) + one, one + strings.Repeat("k", 31), strings.Repeat(one, 32)} {
			if got := index.Key(s); got != want {
				t.Errorf("Key of %q: %v", s, got)
			}
		}
	}
}

// P15.1: a key has 1 to MaxKey bytes.
func TestKeyLengths(t *testing.T) {
	for n := range 100 {
		for _, b := range []string{"!", "k", "~"} {
			if got := index.Key(strings.Repeat(b, n)); got != (n >= 1 && n <= 32) {
				t.Errorf("Key of %d bytes: %v", n, got)
			}
		}
	}
	for _, s := range noKeys() {
		if index.Key(s) {
			t.Errorf("Key of %q", s)
		}
	}
}

// P15.1: an end has 1 to MaxKey bytes from 33 to 127, unless it is empty, and is above from.
func TestRangeEnds(t *testing.T) {
	for b := range 256 {
		want := b >= 33 && b <= 127
		one := string([]byte{byte(b)})
		for _, end := range []string{"k" + one, "k" + one + "k", "kk" + one, "k" + strings.Repeat("k", 30) + one} {
			if got := index.Range("k", end); got != want {
				t.Errorf("Range of k, %q: %v", end, got)
			}
		}
		if got := index.Range("!", one); got != (want && b > 33) {
			t.Errorf("Range of !, %q: %v", one, got)
		}
		if got := index.Range("k", one); got != (want && b > 'k') {
			t.Errorf("Range of k, %q: %v", one, got)
		}
	}
	for n := 1; n < 100; n++ {
		for _, b := range []string{"l", "~", "\x7f"} {
			if got := index.Range("k", strings.Repeat(b, n)); got != (n <= 32) {
				t.Errorf("Range of k, %d bytes: %v", n, got)
			}
		}
	}
}

// P15.1: from is a key, whatever the end is.
func TestRangeFroms(t *testing.T) {
	for b := range 256 {
		one := string([]byte{byte(b)})
		want := b >= 33 && b <= 126
		for _, end := range []string{"", "\x7f\x7f"} {
			for _, from := range []string{one, "k" + one, one + "k", strings.Repeat("k", 31) + one} {
				if got := index.Range(from, end); got != want {
					t.Errorf("Range of %q, %q: %v", from, end, got)
				}
			}
		}
	}
	for n := range 100 {
		for _, end := range []string{"", "l", "\x7f"} {
			if got := index.Range(strings.Repeat("k", n), end); got != (n >= 1 && n <= 32) {
				t.Errorf("Range of %d bytes, %q: %v", n, end, got)
			}
		}
	}
}

// P15.1: which texts are a range, and which aren't.
func TestRange(t *testing.T) {
	long := strings.Repeat("k", 32)
	for _, r := range [][2]string{
		{"a", ""},
		{"a", "b"},
		{"a", "a!"},
		{"a", "aa"},
		{"a", "ab"},
		{"a/", "a0"},
		{"a", "\x7f"},
		{"~", "\x7f"},
		{"~", "~\x7f"},
		{"~", "~!"},
		{"!", "!!"},
		{"A", "a"},
		{long, ""},
		{long, "l"},
		{long, strings.Repeat("k", 31) + "l"},
		{strings.Repeat("k", 31), long},
		{strings.Repeat("~", 32), strings.Repeat("\x7f", 32)},
		{"a", strings.Repeat("b", 32)},
	} {
		if !index.Range(r[0], r[1]) {
			t.Errorf("Range of %q, %q: false", r[0], r[1])
		}
	}
	for _, r := range noRanges() {
		if index.Range(r[0], r[1]) {
			t.Errorf("Range of %q, %q: true", r[0], r[1])
		}
	}
}

// P15.1: In is from from on, below the end; of an empty one from alone.
func TestIn(t *testing.T) {
	for _, c := range []struct {
		from, end, key string
		want           bool
	}{
		{"b", "d", "b", true},
		{"b", "d", "b!", true},
		{"b", "d", "c", true},
		{"b", "d", "c~~", true},
		{"b", "d", "d", false},
		{"b", "d", "d!", false},
		{"b", "d", "a~", false},
		{"b", "d", "a", false},
		{"b", "d", "B", false},
		{"b", "", "b", true},
		{"b", "", "b!", false},
		{"b", "", "bb", false},
		{"b", "", "c", false},
		{"b", "", "a", false},
		{"bb", "", "b", false},
		{"b", "b!", "b", true},
		{"b", "b!", "b!", false},
		{"b", "b\x7f", "b~", true},
		{"b", "b\x7f", "b~~~", true},
		{"b", "b\x7f", "c", false},
		{"~", "\x7f", "~", true},
		{"~", "\x7f", strings.Repeat("~", 32), true},
		{"~", "\x7f", strings.Repeat("~", 33), false},
		{"!", "\x7f", "!", true},
		{"!", "\x7f", "~", true},
		{"b/", "b0", "b/", true},
		{"b/", "b0", "b/x", true},
		{"b/", "b0", "b0", false},
		{"b/", "b0", "b", false},
		{"b/", "b0", "b.", false},
	} {
		if got := index.In(c.from, c.end, c.key); got != c.want {
			t.Errorf("In of %q, %q, %q: %v", c.from, c.end, c.key, got)
		}
	}
}

// P15.1: of what is no range, or no key, In is false, also where the order of the texts would have it so.
func TestInOfWhatIsNone(t *testing.T) {
	for _, s := range noKeys() {
		for _, r := range [][2]string{{"!", "\x7f"}, {"a", "b"}, {"a", ""}, {"a", "a!"}, {"k", "l"}} {
			if index.In(r[0], r[1], s) {
				t.Errorf("In of %q, %q, %q: true", r[0], r[1], s)
			}
		}
	}
	for _, r := range noRanges() {
		for _, s := range []string{"!", "A", "a", "a!", "aa", "b", "k", "kk", "~", strings.Repeat("k", 32), r[0], r[1], r[0] + "a"} {
			if index.In(r[0], r[1], s) {
				t.Errorf("In of %q, %q, %q: true", r[0], r[1], s)
			}
		}
	}
}

// P15.1: of all threes of few texts, Key, Range and In are what the words say.
func TestAllThrees(t *testing.T) {
	texts := append(noKeys(), "!", "a", "a!", "a!!", "aa", "a~", "b", "k", "~", "~~", "\x7f", "~\x7f", "a\x7f",
		strings.Repeat("k", 31), strings.Repeat("k", 32), strings.Repeat("~", 32), strings.Repeat("\x7f", 32))
	for _, from := range texts {
		if index.Key(from) != modelKey(from) {
			t.Errorf("Key of %q", from)
		}
		for _, end := range texts {
			if index.Range(from, end) != modelRange(from, end) {
				t.Errorf("Range of %q, %q", from, end)
			}
			for _, s := range texts {
				if index.In(from, end, s) != modelIn(from, end, s) {
					t.Errorf("In of %q, %q, %q", from, end, s)
				}
			}
		}
	}
}
