"""What is new among points, and what has become of the known ones."""

from newandmoving.words import read_points, refusal

MOST_POINTS_SEEN = 256
MOST_R = 65535
MOST_D = 131072

AS_IT_WAS = 0
BRIGHTER = 1
FAINTER = 2
GONE = 3


# Squared, so that it stays a whole number.
def how_far(a, b):
    across = a.x - b.x
    along = a.y - b.y
    return across * across + along * along


def nearest(point, others):
    best = None
    for other in others:
        # Only a nearer one takes the place, so that of as near ones the first is kept.
        if best is None or how_far(point, other) < how_far(point, best):
            best = other
    return best


def nearest_within(r, point, others):
    best = nearest(point, others)
    if best is None or how_far(point, best) > r * r:
        return None
    return best


def state(r, d, point, seen):
    now = nearest_within(r, point, seen)
    if now is None:
        return GONE
    # Less is brighter.
    if point.brightness - now.brightness > d:
        return BRIGHTER
    if now.brightness - point.brightness > d:
        return FAINTER
    return AS_IT_WAS


def mo_new(r, known, l):
    refused = refusal(r <= MOST_R, MOST_POINTS_SEEN, [known, l])
    if refused < 0:
        return [refused]
    before = read_points(known)
    seen = read_points(l)
    fresh = [k for k in range(len(seen)) if nearest_within(r, seen[k], before) is None]
    return [len(fresh)] + fresh


def mo_states(r, d, known, l):
    refused = refusal(r <= MOST_R and d <= MOST_D, MOST_POINTS_SEEN, [known, l])
    if refused < 0:
        return [refused]
    seen = read_points(l)
    return [0] + [state(r, d, point, seen) for point in read_points(known)]
