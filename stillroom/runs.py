"""The code of runs (points 22 and 23)."""

from stillroom.pieces import plain_piece, read_pieces, read_plain_piece

_MOST_BYTES = 128
_END = 128


def from_runs(data, left):
    """The tuple (bytes, left) of the lenient reader of runs."""
    return read_pieces(data, left, _run_at)


def _run_at(data, at, _):
    count = data[at]
    if count == _END:
        return [], len(data)
    if count < _END:
        return read_plain_piece(data, at)
    return data[at + 1:at + 2] * (257 - count), at + 2


def to_runs(data):
    """The byte list of the runs of a byte list."""
    found = []
    at = 0
    while at < len(data):
        if _three_equal(data, at):
            many = _count_equal(data, at)
            found.extend([257 - many, data[at]])
        else:
            many = _count_unlike(data, at)
            found.extend(plain_piece(data[at:at + many]))
        at += many
    found.append(_END)
    return found


def _three_equal(data, at):
    return at + 3 <= len(data) and data[at] == data[at + 1] == data[at + 2]


def _count_equal(data, at):
    """How many bytes in a row are equal to the one at the place, at most 128."""
    many = 1
    while many < _MOST_BYTES and at + many < len(data) and data[at + many] == data[at]:
        many += 1
    return many


def _count_unlike(data, at):
    """How many bytes there are up to the next three equal ones, at most 128."""
    many = 1
    while many < _MOST_BYTES and at + many < len(data) and not _three_equal(data, at + many):
        many += 1
    return many
