package index

import (
	"decamp/api"
)

// Key tells whether s is a key.
func Key(s string) bool { return plain(s, 126) }

// Range tells whether from and end are a range. An empty end is that of from alone.
func Range(from, end string) bool {
	// What follows on all keys that begin with a byte 126 has to end somewhere: thus an end may have a byte 127.
	return Key(from) && (end == "" || end > from && plain(end, 127))
}

// In tells whether key is in a range.
func In(from, end, key string) bool {
	return Range(from, end) && Key(key) && key >= from && key < border(from, end)
}

// plain tells whether s has as many bytes as a key may have, each of them from 33 to most.
func plain(s string, most byte) bool {
	if len(s) < 1 || len(s) > api.MaxKey {
		return false
	}
	for i := range len(s) {
		if s[i] < 33 || s[i] > most {
			return false
		}
	}
	return true
}

// border answers the text below which all keys of a range are.
func border(from, end string) string {
	if end == "" {
		return next(from)
	}
	return end
}

// next answers the text right above s: none is between.
func next(s string) string { return s + "\x00" }
