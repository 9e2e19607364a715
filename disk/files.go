package disk

import "codicil/api"

// files are the bytes of each file.
type files map[string][]byte

// operation is done on files, as long as they are those it was first done on: with whole, all of it; with fewer bytes, as much of it as a crash in its midst leaves.
type operation func(on files, bytes int)

// whole is more bytes than any operation has.
const whole = api.MaxRoom + 1

func appending(name, data string) operation {
	return func(on files, bytes int) {
		on[name] = append(on[name], data[:min(bytes, len(data))]...)
	}
}

func cutting(name string, n int) operation {
	return undivided(func(on files) { on[name] = beginning(on[name], n) })
}

func renaming(from, to string) operation {
	return undivided(func(on files) {
		data := on[from]
		delete(on, from)
		on[to] = data
	})
}

func removing(name string) operation {
	return undivided(func(on files) { delete(on, name) })
}

// undivided makes an operation of which a crash in its midst leaves nothing.
func undivided(do func(on files)) operation {
	return func(on files, bytes int) {
		if bytes == whole {
			do(on)
		}
	}
}

// beginning cuts data; where much is cut off, what is kept moves, so that files that were cut do not hold more memory than a disk has room.
func beginning(data []byte, n int) []byte {
	if n < cap(data)/2 {
		return copied(data[:n])
	}
	return data[:n]
}

// copied shares nothing with data, even if there is none (which slices.Clone would).
func copied(data []byte) []byte {
	return append([]byte(nil), data...)
}

func (f files) copied() files {
	all := make(files, len(f))
	for name, data := range f {
		all[name] = copied(data)
	}
	return all
}

func (f files) has(name string) bool {
	_, is := f[name]
	return is
}

func (f files) size() int {
	sum := 0
	for _, data := range f {
		sum += len(data)
	}
	return sum
}
