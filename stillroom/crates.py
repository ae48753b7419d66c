"""Crates: byte lists that contain other byte lists (points 43 to 47 and 49 to 51)."""

from stillroom.characters import codes
from stillroom.digits import from_base64, from_hex
from stillroom.errors import Malformed
from stillroom.fields import read_low_first, stands, write_low_first
from stillroom.measure import spend
from stillroom.runs import from_runs
from stillroom.signs import END_SIGN, HEAD_SIGN, find_end, plain_name
from stillroom.sums import check_sum
from stillroom.window import unsqueeze

_HEAD_SIZE = 20
_RECORD_SIGN = (67, 68, 73, 82)
_RECORD_SIZE = 10
_MOST_ENTRIES = 64
_LAST_METHOD = 4


def open_crate(data, left):
    """The tuple (list of entries, left)."""
    left, enough = spend(left, 1 + len(data))
    if not enough:
        return [], left
    found = _without_overlaps(_found_by_directory(data))
    if not found:
        found = _found_by_search(data)
    names = {}
    for at, (name, _) in enumerate(found):
        names[plain_name(name)] = at
    # A name has its last place: so earlier entries of this name are left out.
    stay = sorted([(at, name) for name, at in names.items()])
    return [_entry(data, name, found[at][1]) for at, name in stay[:_MOST_ENTRIES]], left


def _entry(data, name, piece):
    begin, data_begin, end = piece
    method = data[begin + 4]
    size = read_low_first(data[begin + 8:begin + 12])
    total = read_low_first(data[begin + 12:begin + 16])
    return name, method, size, total, tuple(data[data_begin:end])


def _piece_at(data, at):
    """The piece of the head at the place: the tuple (its place, the place of its data,
    the place behind them, as the head says); None if no whole head stands there."""
    name_begin = at + _HEAD_SIZE
    if name_begin > len(data) or not stands(data, at, HEAD_SIGN):
        return None
    data_begin = name_begin + read_low_first(data[at + 6:at + 8])
    if data_begin > len(data):
        return None
    return at, data_begin, data_begin + read_low_first(data[at + 16:at + 20])


def _found_by_directory(data):
    """The entries by the directory, as tuples (name, piece)."""
    end = find_end(data)
    found = []
    if end < 0:
        return found
    at = end - read_low_first(data[end + 6:end + 10])
    for _ in range(read_low_first(data[end + 4:end + 6])):
        name_begin = at + _RECORD_SIZE
        if name_begin > end or not stands(data, at, _RECORD_SIGN):
            break
        distance = read_low_first(data[at + 4:at + 8])
        at = name_begin + read_low_first(data[at + 8:at + 10])
        if at > end or distance > end:
            break
        piece = _piece_at(data, end - distance)
        if piece is not None and piece[2] <= len(data):
            found.append((data[name_begin:at], piece))
    return found


def _found_by_search(data):
    """The entries by search, as tuples (name, piece)."""
    found = []
    at = 0
    while at < len(data):
        piece = _piece_at(data, at) if data[at] == HEAD_SIGN[0] else None
        if piece is None:
            at += 1
        else:
            found.append((data[at + _HEAD_SIZE:piece[1]], piece))
            at = piece[2]
    return found


def _without_overlaps(found):
    """Those of which the piece has no byte in common with an earlier one that stays."""
    stay = []
    taken = []
    for name, piece in found:
        begin, _, end = piece
        at = _count_before(taken, end)
        # The pieces in taken lie apart: of those that begin before this one ends,
        # the last one ends last.
        if at == 0 or taken[at - 1][1] <= begin:
            taken.insert(at, (begin, end))
            stay.append((name, piece))
    return stay


def _count_before(taken, place):
    """How many of the pieces, ascending by their places, begin before the place."""
    low = 0
    high = len(taken)
    while low < high:
        middle = (low + high) // 2
        if taken[middle][0] < place:
            low = middle + 1
        else:
            high = middle
    return low


def read_content(entry, left):
    """The tuple (byte list, or None if reading fails; left)."""
    _, method, size, total, data = entry
    left, enough = spend(left, 1)
    if not enough:
        return None, left
    content, left = _decoded(method, list(data), left)
    if content is None:
        return None, left
    left, enough = spend(left, len(content))
    if not enough or len(content) != size or check_sum(content) != total:
        return None, left
    return content, left


def _decoded(method, data, left):
    """The tuple (content or None, left), before the content is spent once more."""
    if method > _LAST_METHOD:
        return None, left
    # The readers leave 0 both if a cost is too great and if the work is just enough.
    # With one unit more, 0 says that the cost is too great.
    content, left = _read_coded(method, data, left + 1)
    if left == 0:
        return None, left
    return content, left - 1


def _read_coded(method, data, left):
    if method == 1:
        return from_runs(data, left)
    if method == 2:
        return unsqueeze(data, left)
    if method == 3:
        return from_hex(data, left)
    if method == 4:
        return from_base64(data, left)
    return data, spend(left, len(data))[0]


def write_crate(entries):
    """The byte list of some entries. Raises Malformed if a name is not plain."""
    written = []
    places = []
    for entry in entries:
        places.append(len(written))
        written.extend(_write_entry(entry))
    records = [(codes(entry[0]), place) for entry, place in zip(entries, places)]
    size = sum([_RECORD_SIZE + len(name) for name, _ in records])
    end = len(written) + size
    for name, place in records:
        written.extend(list(_RECORD_SIGN) + write_low_first(end - place, 4) + write_low_first(len(name), 2) + name)
    return written + list(END_SIGN) + write_low_first(len(entries), 2) + write_low_first(size, 4)


def _write_entry(entry):
    name, method, size, total, data = entry
    if plain_name(codes(name)) != name:
        raise Malformed("a name is not plain")
    head = list(HEAD_SIGN) + [method, 0] + write_low_first(len(name), 2)
    for number in (size, total, len(data)):
        head.extend(write_low_first(number, 4))
    return head + codes(name) + list(data)
