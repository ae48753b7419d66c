"""Runes, read and written as UTF-8 (point 80)."""

from stillroom.errors import OutOfRange

GREATEST_RUNE = 1114111
_UNREADABLE = 65533

# The runes that no well-formed sequence stands for.
_FIRST_BARRED = 55296
_LAST_BARRED = 57343

# The greatest byte that is a sequence by itself, and those behind a first byte.
_GREATEST_SINGLE = 127
_FIRST_NEXT = 128
_LAST_NEXT = 191

# The longer sequences: how many bytes, the least and the greatest first byte, the least rune.
_LONGER = ((2, 192, 223, 128), (3, 224, 239, 2048), (4, 240, 247, 65536))


def runes(data):
    """The list of the runes of a byte list."""
    found = []
    at = 0
    while at < len(data):
        rune, count = _rune_at(data, at)
        found.append(rune)
        at += count
    return found


def _rune_at(data, at):
    """The tuple (rune, the number of its bytes) at the place."""
    first = data[at]
    if first <= _GREATEST_SINGLE:
        return first, 1
    for count, low, high, least in _LONGER:
        if low <= first <= high:
            rune = _joined(first - low, data[at + 1:at + count])
            if at + count <= len(data) and rune >= least and _has_sequence(rune):
                return rune, count
    return _UNREADABLE, 1


def _joined(number, behind):
    """The number with the lowest 6 bits of the bytes behind it; -1 if one of them
    cannot stand there."""
    for byte in behind:
        if not _FIRST_NEXT <= byte <= _LAST_NEXT:
            return -1
        number = number * 64 + byte - _FIRST_NEXT
    return number


def _has_sequence(rune):
    return 0 <= rune <= GREATEST_RUNE and not _FIRST_BARRED <= rune <= _LAST_BARRED


def rune_bytes(rune):
    """The well-formed sequence of a rune, a byte list. Raises OutOfRange if it has none."""
    if not _has_sequence(rune):
        raise OutOfRange("no rune with a well-formed sequence")
    if rune <= _GREATEST_SINGLE:
        return [rune]
    count, low, _, _ = [form for form in _LONGER if rune >= form[3]][-1]
    behind = [_FIRST_NEXT + ((rune >> (6 * at)) & 63) for at in range(count - 2, -1, -1)]
    return [low + (rune >> (6 * count - 6))] + behind
