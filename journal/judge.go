package journal

import "valise/api"

// judge tells what the bytes of a file say, and the writes, over their first Size bytes, that recovery makes (of an armed seal alone). The writes' bytes are the image's own.
func judge(image []byte) (api.Verdict, []api.Write) {
	n, zeros := len(image), tail(image)
	if zeros >= growth {
		return api.Verdict{State: api.StateBlank, Size: n - zeros/growth*growth}, nil
	}
	s, f, ok := rightSeal(image, zeros)
	if !ok {
		return api.Verdict{Size: n}, nil
	}
	v := api.Verdict{State: s.State, Seq: s.Seq, Size: s.Old}
	switch s.State {
	case api.StateDone:
		v.Size = s.New
	case api.StateArmed:
		back, ok := unbody(image[f.bodyAt:f.bodyAt+s.Length], s)
		if !ok {
			return api.Verdict{Size: n}, nil
		}
		return v, back
	}
	return v, nil
}

// rightSeal tells the seal in the last whole sector of an image that ends with so many zeros, and the frame that it says; or that no right one stands there.
func rightSeal(image []byte, zeros int) (api.Seal, frame, bool) {
	place := sealPlace(len(image))
	if place < 0 || zeros < len(image)-place-api.SectorSize {
		return api.Seal{}, frame{}, false
	}
	s, e := DecodeSeal(image[place : place+api.SectorSize])
	if e != api.OK || !isSize(s.Old) || !isSize(s.New) {
		return api.Seal{}, frame{}, false
	}
	f := frameOf(s.Old, s.New, s.Length)
	return s, f, f.file == len(image)
}

// tail tells how many bytes 0 an image ends with.
func tail(image []byte) int {
	n := len(image)
	for n > 0 && image[n-1] == 0 {
		n--
	}
	return len(image) - n
}
