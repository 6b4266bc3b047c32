package dir

import (
	"bytes"

	"cistern/api"
)

const (
	numbers = 4           // Id, Size, Root, Origin
	fixedAt = numbers * 8 // behind these Fixed
	countAt = fixedAt + 1 // behind it how many bytes the name has
	nameAt  = countAt + 1 // behind it the name
	mostId  = 1<<62 - 1
)

// Named answers whether a name may be (P16.1).
func Named(name string) bool {
	if len(name) < 1 || len(name) > api.MaxName {
		return false
	}
	for _, letter := range name {
		if !inNames(letter) {
			return false
		}
	}
	return true
}

// inNames answers whether a letter stands in names that may be.
func inNames(letter rune) bool {
	switch letter {
	case '-', '_', '.':
		return true
	}
	return 'a' <= letter && letter <= 'z' || '0' <= letter && letter <= '9'
}

// May answers whether a volume may be (P16.1).
func May(v api.Volume) bool {
	return Named(v.Name) && v.Id >= 1 && v.Id <= mostId && v.Size <= api.MaxSize
}

// Put answers the entry of a volume (P16.1).
func Put(v api.Volume) ([]byte, api.Errno) {
	if !May(v) {
		return nil, api.ErrArg
	}
	b := make([]byte, 0, nameAt+len(v.Name))
	for _, n := range [numbers]uint64{v.Id, v.Size, v.Root, v.Origin} {
		b = append(b, byte(n>>56), byte(n>>48), byte(n>>40), byte(n>>32), byte(n>>24), byte(n>>16), byte(n>>8), byte(n))
	}
	fixed := byte(0)
	if v.Fixed {
		fixed = 1
	}
	b = append(b, fixed, byte(len(v.Name)))
	return append(b, v.Name...), api.OK
}

// Take answers the volume of an entry (P16.1). Whatever the bytes tell: they are an entry, if what they tell is laid so.
func Take(b []byte) (api.Volume, api.Errno) {
	if len(b) < nameAt {
		return api.Volume{}, api.ErrForm
	}
	v := api.Volume{Id: number(b, 0), Size: number(b, 1), Root: number(b, 2), Origin: number(b, 3), Fixed: b[fixedAt] == 1}
	v.Name = string(b[nameAt:min(nameAt+int(b[countAt]), len(b))])
	form, e := Put(v)
	behind, so := bytes.CutPrefix(b, form)
	if e != api.OK || !so || bytes.Count(behind, []byte{0}) != len(behind) {
		return api.Volume{}, api.ErrForm
	}
	return v, api.OK
}

// number answers one of the numbers at the beginning of an entry.
func number(b []byte, which int) uint64 {
	n := uint64(0)
	for _, digit := range b[which*8 : which*8+8] {
		n = n<<8 | uint64(digit)
	}
	return n
}
