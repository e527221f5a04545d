"""What is new among points, what has become of the known ones, and which may be one thing going on."""

from newandmoving.words import FINE_PARTS, FinePlace, finely, read_points, refusal, rounded

MOST_POINTS_SEEN = 256
MOST_POINTS_JOINED = 48
MOST_R = 65535
MOST_D = 131072
MOST_Q = 65535
MOST_E = 16777216
MOST_LEAST = 255

AS_IT_WAS = 0
BRIGHTER = 1
FAINTER = 2
GONE = 3


# Squared, so that it stays a whole number.
def how_far(a, b):
    across = a.x - b.x
    along = a.y - b.y
    return across * across + along * along


def nearest(point, others):
    best = None
    for other in others:
        # Only a nearer one takes the place, so that of as near ones the first is kept.
        if best is None or how_far(point, other) < how_far(point, best):
            best = other
    return best


def nearest_within(r, point, others):
    best = nearest(point, others)
    if best is None or how_far(point, best) > r * r:
        return None
    return best


def state(r, d, point, seen):
    now = nearest_within(r, point, seen)
    if now is None:
        return GONE
    # Less is brighter.
    if point.brightness - now.brightness > d:
        return BRIGHTER
    if now.brightness - point.brightness > d:
        return FAINTER
    return AS_IT_WAS


def may_be_one(q, earlier, later):
    between = later.t - earlier.t
    reach = q * between
    return between > 0 and how_far(earlier, later) <= reach * reach


def pairs_of(q, points):
    found = []
    for first in range(len(points)):
        for second in range(len(points)):
            if may_be_one(q, points[first], points[second]):
                found.append((first, second))
    return found


def where_they_say(a, b, t):
    # Two points that are told in the wrong order, or at one time, still say something.
    between = max(b.t - a.t, 1)
    since = t - a.t
    return FinePlace(
        FINE_PARTS * a.x + rounded(FINE_PARTS * (b.x - a.x) * since, between),
        FINE_PARTS * a.y + rounded(FINE_PARTS * (b.y - a.y) * since, between),
    )


def how_far_beside(a, b, c):
    return how_far(where_they_say(a, b, c.t), finely(c))


def goes_on(e, a, b, c):
    return c.t > b.t and how_far_beside(a, b, c) <= e * e


def goes_ahead_of(a, b, c, other):
    if c.t != other.t:
        return c.t < other.t
    return how_far_beside(a, b, c) < how_far_beside(a, b, other)


# The last two of a way alone say where it goes on.
def next_number(e, way, points):
    a = points[way[-2]]
    b = points[way[-1]]
    best = None
    for k in range(len(points)):
        if goes_on(e, a, b, points[k]):
            # Only one that goes ahead takes the place, so that of as near ones the first is kept.
            if best is None or goes_ahead_of(a, b, points[k], points[best]):
                best = k
    return best


def way_from(e, pair, points):
    way = list(pair)
    following = next_number(e, way, points)
    # Each point is later than the one ahead of it, so there is an end to this.
    while following is not None:
        way.append(following)
        following = next_number(e, way, points)
    return way


def mo_new(r, known, l):
    refused = refusal(r <= MOST_R, MOST_POINTS_SEEN, [known, l])
    if refused < 0:
        return [refused]
    before = read_points(known)
    seen = read_points(l)
    fresh = [k for k in range(len(seen)) if nearest_within(r, seen[k], before) is None]
    return [len(fresh)] + fresh


def mo_states(r, d, known, l):
    refused = refusal(r <= MOST_R and d <= MOST_D, MOST_POINTS_SEEN, [known, l])
    if refused < 0:
        return [refused]
    seen = read_points(l)
    return [0] + [state(r, d, point, seen) for point in read_points(known)]


def mo_pairs(q, l):
    refused = refusal(q <= MOST_Q, MOST_POINTS_JOINED, [l])
    if refused < 0:
        return [refused]
    found = pairs_of(q, read_points(l))
    answer = [len(found)]
    for pair in found:
        answer.extend(pair)
    return answer


def mo_ways(q, e, least, l):
    refused = refusal(q <= MOST_Q and e <= MOST_E and least <= MOST_LEAST, MOST_POINTS_JOINED, [l])
    if refused < 0:
        return [refused]
    points = read_points(l)
    many = 0
    way_of = [0 for point in points]
    for pair in pairs_of(q, points):
        way = way_from(e, pair, points)
        if len(way) >= least and all([way_of[k] == 0 for k in way]):
            many += 1
            for k in way:
                way_of[k] = many
    return [many] + way_of
