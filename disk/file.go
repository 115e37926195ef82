package disk

import (
	"bytes"
)

// file is what a file has: all its bytes, of which the first ones are safe.
type file struct {
	all  []byte
	safe int
}

// waits tells how many bytes wait.
func (f file) waits() int {
	return len(f.all) - f.safe
}

// more is the file with b behind, which waits. It takes the spare room of f, which is to be asked no more.
func (f file) more(b []byte) file {
	return file{append(f.all, b...), f.safe}
}

// first is the file of the first n bytes alone, all safe. It, too, takes the place of f.
func (f file) first(n int) file {
	all := f.all[:n]
	// A small rest would hold on to all the memory. A great one stays where it is: cutting bit by bit isn't slow so.
	if n < cap(all)/2 {
		all = bytes.Clone(all)
	}
	return file{all, n}
}

// copy is the file, in memory of its own.
func (f file) copy() file {
	return file{bytes.Clone(f.all), f.safe}
}
