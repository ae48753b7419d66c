"""Predicted rows (points 26 to 28)."""

from stillroom.measure import spend

_GREATEST_WIDTH = 65536
_METHODS = 5


def predict(data, width):
    """The byte list of the predicted rows of a byte list."""
    width = _bounded(width)
    found = []
    before = _no_row(data, width)
    for at in range(0, len(data), width):
        row = data[at:at + width]
        found.extend(_best_row(row, before))
        before = row
    return found


def unpredict(data, width, left):
    """The tuple (bytes, left) of the lenient reader of predicted rows."""
    left, enough = spend(left, len(data))
    if not enough:
        return [], left
    width = _bounded(width)
    found = []
    before = _no_row(data, width)
    for at in range(0, len(data), width + 1):
        before = _read_row(data[at], data[at + 1:at + 1 + width], before)
        found.extend(before)
    return found, left


def _bounded(width):
    return min(max(width, 1), _GREATEST_WIDTH)


def _no_row(data, width):
    """What stands above the first row."""
    return [0] * min(width, len(data))


def _best_row(row, before):
    """The method and the bytes of a row that is written."""
    best = [0] + row
    least = _weight(row)
    for method in range(1, _METHODS):
        written = _write_row(method, row, before)
        weight = _weight(written)
        if weight < least:
            best = [method] + written
            least = weight
    return best


def _weight(written):
    return sum([min(byte, 256 - byte) for byte in written])


def _write_row(method, row, before):
    written = []
    left = 0
    corner = 0
    for byte, above in zip(row, before):
        written.append((byte - _prediction(method, left, above, corner)) & 255)
        left = byte
        corner = above
    return written


def _read_row(method, written, before):
    row = []
    left = 0
    corner = 0
    for byte, above in zip(written, before):
        left = (byte + _prediction(method, left, above, corner)) & 255
        corner = above
        row.append(left)
    return row


def _prediction(method, left, above, corner):
    if method == 1:
        return left
    if method == 2:
        return above
    if method == 3:
        return (left + above) // 2
    if method == 4:
        return _nearest(left, above, corner)
    return 0


def _nearest(left, above, corner):
    aim = left + above - corner
    best = left
    for other in (above, corner):
        if abs(other - aim) < abs(best - aim):
            best = other
    return best
