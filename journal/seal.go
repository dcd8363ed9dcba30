package journal

import (
	"bytes"

	"valise/api"
	"valise/field"
)

const magic = "VALISEJ1" // what a seal begins with

// EncodeSeal tells a seal's sector.
func EncodeSeal(s api.Seal) ([]byte, api.Errno) {
	if s.State < api.StateClaimed || s.State > api.StateDone {
		return nil, api.ErrArg
	}
	for _, v := range []int{s.Seq, s.Old, s.New, s.Count, s.Length} {
		if v < 0 || v > api.MaxField {
			return nil, api.ErrArg
		}
	}
	return sectorOf(s), api.OK
}

// sectorOf tells the sector of a seal whose numbers fit their fields.
func sectorOf(s api.Seal) []byte {
	b := field.NewBuffer(api.SectorSize)
	b.Text(magic)
	for _, v := range []int{s.State, s.Seq, s.Old, s.New, s.Count, s.Length, int(s.Sum)} {
		b.U32(v)
	}
	b.U32(int(field.Sum(b.Take())))
	sector := make([]byte, api.SectorSize)
	copy(sector, b.Take())
	return sector
}

// DecodeSeal reads a seal's sector.
func DecodeSeal(sector []byte) (api.Seal, api.Errno) {
	if len(sector) != api.SectorSize {
		return api.Seal{}, api.ErrSealShape
	}
	c := field.NewCursor(sector)
	c.Skip(len(magic))
	s := api.Seal{State: c.U32(), Seq: c.U32(), Old: c.U32(), New: c.U32(), Count: c.U32(), Length: c.U32(), Sum: uint32(c.U32())}
	// What isn't read here (the first bytes, the sum, the zeros) is right just where the seal's own sector is the same.
	own, e := EncodeSeal(s)
	if e != api.OK || !bytes.Equal(own, sector) {
		return api.Seal{}, api.ErrSealShape
	}
	return s, api.OK
}
